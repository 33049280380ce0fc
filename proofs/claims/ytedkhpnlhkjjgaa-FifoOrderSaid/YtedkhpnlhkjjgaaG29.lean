/- due.Take on a live store: what holds between two rounds. -/
import Derived.Test.YtedkhpnlhkjjgaaG28
import Derived.Test.YtedkhpnlhkjjgaaG22
import Derived.Maps.AppendAt
import Derived.WalkMore
namespace Go.Proofs.Ytedkhpnlhkjjgaa
open Go.RowKit Go.Maps Go.Sort

/-- the entries without the first M rows -/
def dels (L : SL) (key : Nat → ByteArray) : Nat → SL
  | 0 => L
  | M + 1 => sdel (dels L key M) (key M)
theorem sdel_len (L : SL) (k : ByteArray) : (sdel L k).length ≤ L.length := List.length_filter_le _ _
theorem dels_len (L : SL) (key : Nat → ByteArray) : ∀ M, (dels L key M).length ≤ L.length
  | 0 => Nat.le_refl _
  | M + 1 => Nat.le_trans (sdel_len _ _) (dels_len L key M)
def DRow.val (x : DRow) : Value := .slice (some ⟨x.g, 0, none⟩) x.n x.n
theorem LiveTo.other {w W V V' : World} {b : Nat} {F : List Nat} {L : SL} {q : Nat} (h : LiveTo w W V b F L q) (G : List Nat) (ht : Touch G V V') (hw : w.heap.size ≤ W.heap.size) (hG : ∀ g ∈ G, W.heap.size ≤ g ∧ ∃ cs T fr, V.heap[g]? = some (Obj.cells cs T fr) ∧ Foreign T) : LiveTo w W V' b F L q := by
  obtain ⟨F', q', qs', hs, hq, ht1, hf⟩ := h
  exact ⟨F', q', qs', hs.other G ht (fun g hg => ⟨Nat.le_trans hw (hG g hg).1, (hG g hg).2⟩), hq, ht1.trans (F' := G) (fun g hg => .inr (hG g hg).1) ht, hf⟩
theorem LiveTo.book {w W V : World} {b : Nat} {F : List Nat} {L : SL} {q : Nat} (h : LiveTo w W V b F L q) (hw : w.heap.size ≤ W.heap.size) {l : Nat} {o : Obj} (o' : Obj) (hl : V.heap[l]? = some o) (ho : isBook o = true) (hB : W.heap.size ≤ l) : LiveTo w W (V.putObj l o') b F L q := by
  obtain ⟨F', q', qs', hs, hq, ht1, hf⟩ := h
  refine ⟨F', q', qs', hs.book o' hl ho (Nat.le_trans hw hB), hq, ht1.trans (F' := [l]) (fun g hg => .inr ?_) (Touch.grown (grownBy_putObj' V l o') (fun k e => by cases e; simp)), hf⟩
  obtain rfl : g = l := by simpa using hg
  exact hB
theorem LiveTo.keepBook {w W V : World} {b : Nat} {F : List Nat} {L L' : SL} {q q' : Nat} {qs : List Value} (hs : SNew w W b F L q qs) (h : LiveTo w W V b F L' q') (B : Nat) : KeepBook B W V := by
  obtain ⟨_, _, _, _, _, ht, _⟩ := h
  exact ⟨ht.size, fun k o _ hk ho => (ht.block k (Array.getElem?_eq_some_iff.1 hk).1 (stp_book hs.s hk ho)).trans hk⟩
theorem LiveTo.join {w W V V' : World} {b : Nat} {F F1 : List Nat} {L1 L2 : SL} {q1 q2 : Nat} (h1 : LiveTo w W V b F L1 q1) (hf1 : ∀ k ∈ F1, k ∈ F ∨ W.heap.size ≤ k) (h2 : LiveTo w V V' b F1 L2 q2) : LiveTo w W V' b F L2 q2 := by
  have hz := h1.grows
  obtain ⟨_, _, _, _, _, ht, _⟩ := h1
  obtain ⟨F2, q', qs', hs2, hq2, ht2, hf2⟩ := h2
  refine ⟨F2, q', qs', hs2, hq2, ht.trans hf1 ht2, fun k hk => ?_⟩
  rcases hf2 k hk with h | h
  · exact hf1 k h
  · right; omega
/-- between two rounds -/
structure TkI (w W : World) (b : Nat) (F : List Nat) (L : SL) (q : Nat) (key : Nat → ByteArray) (n : Nat → Nat) (f : Nat → Nat → Int) (bj : Nat → Int) (blk : Int) (B2 : Nat) (pre : List DRow) (V : World) : Prop where
  s : LiveTo w W V b F (dels L key pre.length) (q + pre.length)
  sb : V.heap[W.heap.size]? = some (Obj.cells #[.pointer (some ⟨b, 0, none⟩)] 25 (0, 0))
  bb : V.heap[W.heap.size + 1]? = some (Obj.cells #[.int .i64 blk] 3 (0, 0))
  rb : V.heap[W.heap.size + 1 + 1 + 1]? = some (Obj.cells #[.func (.func 79) #[] #[]] 127 (0, 0))
  tk : ∃ v, V.heap[W.heap.size + 1 + 1]? = some (Obj.cells #[v] 44 (0, 0)) ∧ V.ownsRow W.heap.size 30 1 v pre.length (pre.map DRow.val)
  rows : ∀ i (h : i < pre.length), DHas key n f B2 i pre[i] V
  le : ∀ i, i < pre.length → bj i ≤ blk
theorem fP : Foreign 184 := ⟨by decide, by decide, by decide, by decide⟩
theorem fS : Foreign 25 := ⟨by decide, by decide, by decide, by decide⟩
theorem fI : Foreign 3 := ⟨by decide, by decide, by decide, by decide⟩
theorem fIs : Foreign 30 := ⟨by decide, by decide, by decide, by decide⟩
theorem fIss : Foreign 44 := ⟨by decide, by decide, by decide, by decide⟩
theorem fFn : Foreign 127 := ⟨by decide, by decide, by decide, by decide⟩
variable {w W : World} {b : Nat} {F : List Nat} {L : SL} {q : Nat} {key : Nat → ByteArray} {n : Nat → Nat} {f : Nat → Nat → Int} {bj : Nat → Int} {blk : Int} {B2 : Nat}
/-- what keeps all foreign blocks, and the store -/
theorem TkI.keep {pre : List DRow} {V V' : World} (h : TkI w W b F L q key n f bj blk B2 pre V) (hk : ∀ T, Foreign T → KeepT T V V') {L' : SL} {M q' : Nat} (hM : M = pre.length) (hs : LiveTo w W V' b F L' q') (hL : L' = dels L key M) (hq : q' = q + M) : TkI w W b F L q key n f bj blk B2 pre V' := by
  subst hM hL hq
  obtain ⟨v, hv, ho⟩ := h.tk
  exact ⟨hs, (hk _ fS).2 _ _ _ h.sb, (hk _ fI).2 _ _ _ h.bb, (hk _ fFn).2 _ _ _ h.rb, ⟨v, (hk _ fIss).2 _ _ _ hv, ownsRow_keepT ho (hk _ fIs)⟩, fun i hi => (h.rows i hi).keep (hk _ fI), h.le⟩
theorem TkI.stays (hw : w.heap.size ≤ W.heap.size) {B : Nat} (hB : W.heap.size ≤ B) : Stays B (TkI w W b F L q key n f bj blk B2) where
  new := fun pre V V' h hb => h.keep (fun T _ => KeepT.of_below hb) rfl (h.s.post hb) rfl rfl
  put := fun pre V l o o' h hl hlo ho => h.keep (fun T _ => KeepT.putObj V l o o' hlo (isBook_cells ho)) rfl (h.s.book hw o' hlo ho (Nat.le_trans hB hl)) rfl rfl
/-- behind the deletion of the next row -/
structure TkJ (w W : World) (b : Nat) (F : List Nat) (L : SL) (q : Nat) (key : Nat → ByteArray) (M : Nat) (V V1 : World) : Prop where
  s : LiveTo w W V1 b F (dels L key (M + 1)) (q + (M + 1))
  k : ∀ T, Foreign T → KeepT T V V1
  b : ∀ B, KeepBook B V V1
theorem TkI.del {pre : List DRow} {V : World} (h : TkI w W b F L q key n f bj blk B2 pre V) (hk : (key pre.length).size ≤ maxLen) (hL : L.length ≤ 1000000) (hq : q + pre.length < 1000000) :
    Calls Try.prog 76 #[.pointer (some ⟨b, 0, none⟩), .string (key pre.length)] V fun e V1 => (∃ bo, e = .returned (.bool bo)) ∧ TkJ w W b F L q key pre.length V V1 := by
  have hs0 := h.s
  obtain ⟨F1, q1, qs1, hs, hq1, ht, hf⟩ := h.s
  refine (hs.del (key pre.length) hk (Nat.le_trans (dels_len L key _) hL) (by omega)).mono ?_
  rintro e V1 ⟨he, hl⟩
  have hl2 : LiveTo w V V1 b F1 (dels L key (pre.length + 1)) (q + (pre.length + 1)) := by
    obtain ⟨F2, q2, qs2, g1, g2, g3⟩ := hl
    exact ⟨F2, q2, qs2, g1, by omega, g3⟩
  exact ⟨⟨_, he⟩, ⟨hs0.join hf hl2, fun T hT => LiveTo.keepT hs hl hT, fun B => LiveTo.keepBook hs hl B⟩⟩
theorem tk_box {V1 V2 : World} {v : Value} {tmp : Array Value} {g k : Nat} {xs : List Value} (hb : V1.heap[g]? = some (Obj.cells #[v] 44 (0, 0))) (ho : V1.ownsRow W.heap.size 30 1 v k xs) (hgrow : (V1.alloc (Obj.cells tmp 30)).grownBy V2 v.ownBlock) : V2.heap[g]? = some (Obj.cells #[v] 44 (0, 0)) :=
  ((hgrow.block g (by have := hp_lt hb; rw [World.size_alloc]; omega) (fun e => by
    obtain ⟨cs, hc⟩ := ownsRow_typ ho e.symm
    rw [hb] at hc; cases hc)).trans (heap_alloc_old V1 _ (hp_lt hb))).trans hb
/-- behind the append -/
theorem TkI.add {pre : List DRow} {x : DRow} {V V1 V2 : World} {v v' : Value} {tmp : Array Value} (hw : w.heap.size ≤ W.heap.size) (h : TkI w W b F L q key n f bj blk B2 pre V) (hJ : TkJ w W b F L q key pre.length V V1) (hx : DHas key n f B2 pre.length x V) (hle : bj pre.length ≤ blk)
    (hb : V1.heap[W.heap.size + 1 + 1]? = some (Obj.cells #[v] 44 (0, 0))) (ho : V1.ownsRow W.heap.size 30 1 v pre.length (pre.map DRow.val))
    (hown : V2.ownsRow W.heap.size 30 1 v' (pre.length + 1) (pre.map DRow.val ++ [x.val])) (hgrow : (V1.alloc (Obj.cells tmp 30)).grownBy V2 v.ownBlock) :
    TkI w W b F L q key n f bj blk B2 (pre ++ [x]) (V2.setCell ⟨W.heap.size + 1 + 1, 0, none⟩ v') ∧ KeepT 184 V (V2.setCell ⟨W.heap.size + 1 + 1, 0, none⟩ v') ∧ ∀ B, KeepBook B V (V2.setCell ⟨W.heap.size + 1 + 1, 0, none⟩ v') := by
  have hob : ∀ g, v.ownBlock = some g → W.heap.size ≤ g ∧ g < V1.heap.size ∧ ∃ cs, V1.heap[g]? = some (Obj.cells cs 30 (0, 0)) := fun g hg => by
    obtain ⟨cs, hc⟩ := ownsRow_typ ho hg
    refine ⟨?_, hp_lt hc, cs, hc⟩
    rcases ho.2 with ⟨rfl, _⟩ | ⟨g', cap, cur, rfl, hge, _⟩
    · cases hg
    · cases hg; exact hge
  have hg1 : V1.heap.size ≤ V2.heap.size := by have := hgrow.size; rw [World.size_alloc] at this; omega
  have hk12 : ∀ k, k < V1.heap.size → v.ownBlock ≠ some k → V2.heap[k]? = V1.heap[k]? := fun k hk hne => (hgrow.block k (by rw [World.size_alloc]; omega) (fun e => hne e.symm)).trans (heap_alloc_old V1 _ hk)
  have hb2 : V2.heap[W.heap.size + 1 + 1]? = some (Obj.cells #[v] 44 (0, 0)) := (hk12 _ (hp_lt hb) (fun e => by
    obtain ⟨_, _, cs, hc⟩ := hob _ e
    rw [hb] at hc; cases hc)).trans hb
  have kT : ∀ T, T ≠ 30 → T ≠ 44 → KeepT T V1 (V2.setCell ⟨W.heap.size + 1 + 1, 0, none⟩ v') := fun T h1 h2 => by
    refine KeepT.trans ⟨hg1, fun k cs fr hk => (hk12 k (hp_lt hk) (fun e => ?_)).trans hk⟩ (KeepT.setOther v' hb2 h2)
    obtain ⟨_, _, cs', hc⟩ := hob _ e
    rw [hk] at hc; cases hc; exact h1 rfl
  have kB : ∀ B, KeepBook B V1 (V2.setCell ⟨W.heap.size + 1 + 1, 0, none⟩ v') := fun B => ⟨by simpa using hg1, fun k o _ hk hbo => by
    have hne : k ≠ W.heap.size + 1 + 1 := fun e => by subst e; rw [hb] at hk; cases hk; cases hbo
    rw [Below.heap_setCell _ _ _ _ hne]
    refine (hk12 k (Array.getElem?_eq_some_iff.1 hk).1 (fun e => ?_)).trans hk
    obtain ⟨_, _, cs', hc⟩ := hob _ e
    rw [hk] at hc; cases hc; cases hbo⟩
  have ht : Touch ((W.heap.size + 1 + 1) :: v.ownBlock.toList) V1 (V2.setCell ⟨W.heap.size + 1 + 1, 0, none⟩ v') :=
    ((Touch.of_below ((Below.refl V1.heap.size V1).alloc (Nat.le_refl _) (Obj.cells tmp 30))).trans (F' := (W.heap.size + 1 + 1) :: v.ownBlock.toList) (fun _ hk => .inl hk) (Touch.grown hgrow (fun k e => by simp [e]))).trans (fun _ hk => .inl hk) (Touch.setCell V2 _ v' (by simp))
  have hlen : (pre ++ [x]).length = pre.length + 1 := by simp
  refine ⟨⟨?_, ?_, ?_, ?_, ?_, ?_, ?_⟩, (hJ.k _ fP).trans (kT _ (by decide) (by decide)), fun B => (hJ.b B).trans (kB B)⟩
  · rw [hlen]
    refine hJ.s.other _ ht hw fun g hg => ?_
    rcases List.mem_cons.1 hg with rfl | hg
    · exact ⟨by omega, _, _, _, hb, fIss⟩
    · obtain ⟨h1, _, cs, hc⟩ := hob g (by simpa using hg)
      exact ⟨h1, _, _, _, hc, fIs⟩
  · exact (kT _ (by decide) (by decide)).2 _ _ _ ((hJ.k _ fS).2 _ _ _ h.sb)
  · exact (kT _ (by decide) (by decide)).2 _ _ _ ((hJ.k _ fI).2 _ _ _ h.bb)
  · exact (kT _ (by decide) (by decide)).2 _ _ _ ((hJ.k _ fFn).2 _ _ _ h.rb)
  · refine ⟨v', heap_setCell_row hb2 v', ?_⟩
    rw [hlen, List.map_append]
    refine ownsRow_same hown fun g hg => ?_
    obtain ⟨cs, hc⟩ := ownsRow_typ hown hg
    exact Below.heap_setCell _ _ _ _ (fun e => by subst e; rw [hb2] at hc; cases hc)
  · intro i hi
    have k1 : KeepT 3 V (V2.setCell ⟨W.heap.size + 1 + 1, 0, none⟩ v') := (hJ.k _ fI).trans (kT _ (by decide) (by decide))
    rw [hlen] at hi
    rcases Nat.lt_or_ge i pre.length with hlt | hge
    · rw [List.getElem_append_left hlt]
      exact (h.rows i hlt).keep k1
    · obtain rfl : i = pre.length := by omega
      rw [List.getElem_append_right (Nat.le_refl _)]
      simp only [Nat.sub_self, List.getElem_cons_zero]
      exact hx.keep k1
  · intro i hi
    rw [hlen] at hi
    rcases Nat.lt_or_ge i pre.length with hlt | hge
    · exact h.le i hlt
    · obtain rfl : i = pre.length := by omega
      exact hle
end Go.Proofs.Ytedkhpnlhkjjgaa

namespace Go.Proofs.Ytedkhpnlhkjjgaa
open Go.RowKit Go.Maps Go.Sort Go.Shelf
attribute [local go_sem] Oper.semAt_some
attribute [local go_sem] run_store_fn

theorem infoIs : (Try.prog.info? 30).map (fun i => (i.zero, i.size, i.bytes)) = some (some (.slice none 0 0), 1, 24) := by kernel_rfl
theorem under_len (L : SL) (x : ByteArray) : (under L x).length ≤ L.length := by
  unfold under
  exact Nat.le_trans (List.takeWhile_sublist _).length_le (by rw [List.length_drop]; omega)
/-- the rows that stand under the table, in order -/
structure DueRows (U : SL) (N : Nat) (key : Nat → ByteArray) (bj jj : Nat → Int) (n : Nat → Nat) (f : Nat → Nat → Int) : Prop where
  len : U.length = N
  at_ : ∀ i (h : i < U.length), U[i] = (key i, rowV (f i) (n i))
  hk : ∀ i, i < N → keyStr 26 (two2 (bj i) (jj i)) 2 = key i ∧ (0 ≤ bj i ∧ bj i < 2 ^ 63) ∧ (0 ≤ jj i ∧ jj i < 2 ^ 63)
  hn : ∀ i, i < N → 1 ≤ n i ∧ n i ≤ 100
  hf : ∀ i, i < N → ∀ t, t < n i → 0 ≤ f i t ∧ f i t < 2 ^ 63
/-- what Take leaves -/
def TkPost (w W : World) (b : Nat) (F : List Nat) (L : SL) (q : Nat) (N : Nat) (key : Nat → ByteArray) (n : Nat → Nat) (f : Nat → Nat → Int) (bj : Nat → Int) (blk : Int) (T : ByteArray) (cnt : Int) (e : Ending) (W' : World) : Prop :=
  ∃ (xs : List DRow) (v : Value), e = .returned v ∧ xs.length ≤ N ∧ (∀ i, i < xs.length → bj i ≤ blk) ∧ (xs.length = N ∨ blk < bj xs.length) ∧ W'.ownsRow W.heap.size 30 1 v xs.length (xs.map DRow.val) ∧ (∀ i (h : i < xs.length), DHas key n f W.heap.size i xs[i] W') ∧
    LiveTo w W W' b F (if xs.length = 0 then L else if cnt - xs.length < 1 then sdel (dels L key xs.length) T else setL (dels L key xs.length) T (numStr (cnt - xs.length))) (q + xs.length + 1)
theorem DHas.wk {key : Nat → ByteArray} {n : Nat → Nat} {f : Nat → Nat → Int} {B B' i : Nat} {x : DRow} {W : World} (h : DHas key n f B i x W) (hB : B' ≤ B) : DHas key n f B' i x W := ⟨h.k, h.n, h.at_, h.ty, Nat.le_trans hB h.ge, h.pos⟩
set_option maxRecDepth 100000 in
theorem duelen_at {w W : World} {b : Nat} {F : List Nat} {L : SL} {q : Nat} {qs : List Value} (h : SNew w W b F L q qs) (T : ByteArray) (hT : keyStr 27 (fun _ => 0) 0 = T) (c : Nat) (hc : c < 2 ^ 63) (he : intAt L T c) :
    Calls Try.prog 31 #[.pointer (some ⟨b, 0, none⟩)] W fun e w' => e = .returned (.int .i64 (c : Nat)) ∧ Below W.heap.size W w' := by
  have HK := Lib.hid (tbl_is 27 T hT W)
  have HC := Lib.hid (fun (W1 : World) (hb : Below W.heap.size W W1) => cint_at (h.below hb) T c (by rw [← hT]; have := keyStr_size 27 (fun _ => 0) 0; unfold maxLen; omega) he hc)
  clear h hT hc he
  go_enter Try.func31, Try.ntmps31
  go_wp2_with (first
    | (go_at_call 61; refine (HC.out w1 HB1.out).mono ?_; rintro e w2 ⟨rfl, hb2⟩; have HB2 := Lib.hid (HB1.out.trans (hb2.mono HB1.out.size)); clear hb2)
    | (go_at_call 81; refine HK.out.mono ?_; rintro e w1 ⟨rfl, hb1⟩; have HB1 := Lib.hid hb1; clear hb1))
  go_ret
  exact ⟨rfl, HB2.out⟩
/-- the count, behind M rows that were taken -/
def cntL (L : SL) (T : ByteArray) (x : Int) : SL := if x < 1 then sdel L T else setL L T (numStr x)
/-- what the last lines leave -/
structure TkE (w W : World) (b : Nat) (F : List Nat) (L' : SL) (q' : Nat) (V V9 : World) : Prop where
  s : LiveTo w W V9 b F L' q'
  k : ∀ T, Foreign T → KeepT T V V9
  b : ∀ B, KeepBook B V V9
theorem TkE.same {w W : World} {b : Nat} {F : List Nat} {L' : SL} {q' q2 : Nat} {V V9 : World} (h : LiveTo w W V b F L' q') (hb : Below V.heap.size V V9) (hq : q' ≤ q2) : TkE w W b F L' q2 V V9 := by
  obtain ⟨F', q1, qs', hs, hq1, g⟩ := h.post hb
  exact ⟨⟨F', q1, qs', hs, Nat.le_trans hq1 hq, g⟩, fun _ _ => KeepT.of_below hb, fun _ => KeepBook.of_below hb⟩
theorem TkI.count {w W : World} {b : Nat} {F : List Nat} {L : SL} {q : Nat} {key : Nat → ByteArray} {n : Nat → Nat} {f : Nat → Nat → Int} {bj : Nat → Int} {blk : Int} {B2 : Nat} {pre : List DRow} {V V1 : World} (h : TkI w W b F L q key n f bj blk B2 pre V) (hb : Below V.heap.size V V1) (T : ByteArray) (x : Int) (hT : T.size ≤ maxLen) (hT0 : T ≠ ⟨#[]⟩) (hx : x < 2 ^ 63) (hL : L.length < 128) (hq : q + pre.length < 1000000) :
    Calls Try.prog 82 #[.pointer (some ⟨b, 0, none⟩), .string T, .int .i64 x] V1 fun e V9 => e = .returned (.tuple #[]) ∧ TkE w W b F (cntL (dels L key pre.length) T x) (q + pre.length + 1) V V9 := by
  have hs0 := h.s.post hb
  obtain ⟨F1, q1, qs1, hs, hq1, ht, hf⟩ := h.s.post hb
  have hd := dels_len L key pre.length
  refine (csetInt_any hs T x hT hT0 hx (by omega) (by omega)).mono ?_
  rintro e V9 ⟨he, hl⟩
  have hl2 : LiveTo w V1 V9 b F1 (cntL (dels L key pre.length) T x) (q + pre.length + 1) := by
    obtain ⟨F2, q2, qs2, g1, g2, g3⟩ := hl
    exact ⟨F2, q2, qs2, g1, by omega, g3⟩
  exact ⟨he, hs0.join hf hl2, fun T hT => (KeepT.of_below hb).trans (LiveTo.keepT hs hl hT), fun B => (KeepBook.of_below hb).trans (LiveTo.keepBook hs hl B)⟩
theorem tkPost_of {w W : World} {b : Nat} {F : List Nat} {L : SL} {q : Nat} {N : Nat} {key : Nat → ByteArray} {n : Nat → Nat} {f : Nat → Nat → Int} {bj : Nat → Int} {blk : Int} {T : ByteArray} {cnt : Int} {B2 : Nat} {xs : List DRow} {V V9 : World} {v : Value} {D : Nat} (hwW : w.heap.size ≤ W.heap.size) (h : TkI w W b F L q key n f bj blk B2 xs V) (hB : W.heap.size ≤ B2) (hN : xs.length ≤ N) (hend : xs.length = N ∨ blk < bj xs.length)
    (ho : V.ownsRow W.heap.size 30 1 v xs.length (xs.map DRow.val)) (hE : TkE w W b F (if xs.length = 0 then L else cntL (dels L key xs.length) T (cnt - xs.length)) (q + xs.length + 1) V V9) (hD : B2 ≤ D) (hK : V.heap[D]? = some (Obj.deferred (some []))) :
    V9.heap[D]? = some (Obj.deferred (some [])) ∧ TkPost w W b F L q N key n f bj blk T cnt (.returned v) (V9.putObj D (.deferred none)) := by
  have hK9 := (hE.b 0).same D _ (Nat.zero_le _) hK rfl
  refine ⟨hK9, xs, v, rfl, hN, h.le, hend, ownsRow_putObj (ownsRow_keepT ho (hE.k _ fIs)) _ hK9 rfl, fun i hi => (((h.rows i hi).keep (hE.k _ fI)).keep (KeepT.putObj V9 D _ _ hK9 rfl)).wk hB, ?_⟩
  exact hE.s.book hwW _ hK9 rfl (Nat.le_trans hB hD)
set_option maxRecDepth 100000 in
set_option maxHeartbeats 4000000 in
theorem duetake_live {w W : World} {b : Nat} {F : List Nat} {L : SL} {q : Nat} {qs : List Value} (h : SNew w W b F L q qs) (blk : Int) (K T : ByteArray) (hK : keyStr 26 (fun _ => 0) 0 = K) (hT : keyStr 27 (fun _ => 0) 0 = T)
    (N : Nat) (key : Nat → ByteArray) (bj jj : Nat → Int) (n : Nat → Nat) (f : Nat → Nat → Int) (hU : DueRows (under L K) N key bj jj n f) (hks : ∀ p ∈ L, p.1.size ≤ maxLen) (hL : L.length < 128) (hq : q < 900000) (cnt : Nat) (hc : cnt < 2 ^ 62) (hcnt : ∀ M, M ≤ N → intAt (dels L key M) T cnt) :
    Calls Try.prog 30 #[.pointer (some ⟨b, 0, none⟩), .int .i64 blk] W (TkPost w W b F L q N key n f bj blk T cnt) := by
  refine (callsIn_wide (n := 3)).1 ?_
  have h1 : 1 ≤ 3 := by omega
  have hwW := h.l.size
  have HA := Lib.hid (fun w => rows_walk (some ⟨b, 0, none⟩) K w)
  have HTb := Lib.hid (fun w => tbl_is 26 K hK w)
  have HTc := Lib.hid (fun w => tbl_is 27 T hT w)
  have HUn := Lib.hid (fun (W1 : World) (hb : Below W.heap.size W W1) => under_live b F L q qs W1 (h.below hb).s K hks hL)
  obtain ⟨W0, hW0⟩ : ∃ W0, W0 = (((W.alloc (.cells #[.pointer (some ⟨b, 0, none⟩)] 25)).alloc (.cells #[.int .i64 blk] 3)).alloc (.cells #[.slice none 0 0] 44)).alloc (.cells #[.func (.func 79) #[] #[]] 127) := ⟨_, rfl⟩
  have hb0 : Below W.heap.size W W0 := by rw [hW0]; exact ((((Below.refl _ _).alloc (Nat.le_refl _) _).alloc (by simp only [World.size_alloc]; omega) _).alloc (by simp only [World.size_alloc]; omega) _).alloc (by simp only [World.size_alloc]; omega) _
  have r0 : W0.heap[W.heap.size]? = some (.cells #[.pointer (some ⟨b, 0, none⟩)] 25 (0, 0)) := by
    rw [hW0]; exact (heap_alloc_old _ _ (by simp only [World.size_alloc]; omega)).trans ((heap_alloc_old _ _ (by simp only [World.size_alloc]; omega)).trans ((heap_alloc_old _ _ (by simp only [World.size_alloc]; omega)).trans (heap_alloc_new _ _)))
  have r1 : W0.heap[W.heap.size + 1]? = some (.cells #[.int .i64 blk] 3 (0, 0)) := by
    have h := heap_alloc_new (W.alloc (.cells #[.pointer (some ⟨b, 0, none⟩)] 25)) (.cells #[.int .i64 blk] 3)
    rw [World.size_alloc] at h
    rw [hW0]; exact (heap_alloc_old _ _ (by simp only [World.size_alloc]; omega)).trans ((heap_alloc_old _ _ (by simp only [World.size_alloc]; omega)).trans h)
  have r2 : W0.heap[W.heap.size + 1 + 1]? = some (.cells #[.slice none 0 0] 44 (0, 0)) := by
    have h := heap_alloc_new ((W.alloc (.cells #[.pointer (some ⟨b, 0, none⟩)] 25)).alloc (.cells #[.int .i64 blk] 3)) (.cells #[.slice none 0 0] 44)
    rw [World.size_alloc, World.size_alloc] at h
    rw [hW0]; exact (heap_alloc_old _ _ (by simp only [World.size_alloc]; omega)).trans h
  have r3 : W0.heap[W.heap.size + 1 + 1 + 1]? = some (.cells #[.func (.func 79) #[] #[]] 127 (0, 0)) := by
    have h := heap_alloc_new (((W.alloc (.cells #[.pointer (some ⟨b, 0, none⟩)] 25)).alloc (.cells #[.int .i64 blk] 3)).alloc (.cells #[.slice none 0 0] 44)) (.cells #[.func (.func 79) #[] #[]] 127)
    rw [World.size_alloc, World.size_alloc, World.size_alloc] at h
    rw [hW0]; exact h
  have HB0 := Lib.hid (And.intro hb0 (And.intro r0 (And.intro r1 (And.intro r2 r3))))
  have HC := Lib.hid (fun (W1 : World) (hb : Below W0.drew.heap.size W0.drew W1) => (hp_cell (i := 0) ((hb.block W.heap.size (hp_lt r0)).trans r0)).trans rfl)
  have z0 := (hp_cell (i := 0) r0).trans rfl
  have HW := Lib.hid hW0
  have HS := Lib.hid h
  have HP := Lib.hid (And.intro hU (And.intro hL (And.intro hq (And.intro hc hcnt))))
  have HwW := Lib.hid hwW
  have HkT := Lib.hid hT
  clear hU hK hT hks hL hq hc hcnt hb0 r0 r1 r2 r3 hW0 h hwW
  refine callsIn_of_wp_marks Try.func30 rfl trivial ?_ rfl
  simp only [Try.ntmps30, List.size_toArray, List.length_cons, List.length_nil, Nat.reduceAdd, Nat.reduceSub, Array.replicate_succ, Array.replicate_zero, List.push_toArray, List.append_toArray, List.nil_append, List.cons_append]
  have hmix : Try.prog.follows .mixedOrders = true := by kernel_rfl
  gi_wp2
  rw [← HW.out]
  clear HW
  gi_region_with_o (refine ⟨trivial, ?_⟩; first | (gi_at_call 80; refine (callsIn_wide.2 (HA.out _)).mono ?_; rintro e w2 ⟨rfl, hb, hc1, hc2, hz⟩) | (gi_at_call 81; refine (callsIn_wide.2 (HTb.out _)).mono ?_; rintro e w1 ⟨rfl, hb1⟩; have cc := HC.out _ hb1))
  all_goals
    gi_wp2
    obtain ⟨hb0, r0, r1, r2, r3⟩ := HB0.out
    have hbd : Below W0.heap.size W0 W0.drew := (Below.refl _ _).drew
    have hb01 : Below W.heap.size W w1 := hb0.trans ((hbd.mono hb0.size).trans (hb1.mono hb0.size))
    have hb2 : Below W.heap.size W w2 := hb01.trans (hb.mono hb01.size)
    have q0 := (hb.block _ (Nat.lt_of_lt_of_le (hp_lt r0) hb1.size)).trans ((hb1.block _ (hp_lt r0)).trans r0)
    have q1 := (hb.block _ (Nat.lt_of_lt_of_le (hp_lt r1) hb1.size)).trans ((hb1.block _ (hp_lt r1)).trans r1)
    have q2 := (hb.block _ (Nat.lt_of_lt_of_le (hp_lt r2) hb1.size)).trans ((hb1.block _ (hp_lt r2)).trans r2)
    have q3 := (hb.block _ (Nat.lt_of_lt_of_le (hp_lt r3) hb1.size)).trans ((hb1.block _ (hp_lt r3)).trans r3)
    have hI0 : TkI w W b F L q key n f bj blk w2.heap.size [] w2 := ⟨HS.out.same hb2, q0, q1, q3, ⟨_, q2, World.ownsRow_nil _ _ _ _⟩, fun i hi => absurd hi (by simp), fun i hi => absurd hi (by simp)⟩
    have HI0 := Lib.hid hI0
    have HB2 := Lib.hid hb2.size
    have hst := TkI.stays (w := w) (W := W) (b := b) (F := F) (L := L) (q := q) (key := key) (n := n) (f := f) (bj := bj) (blk := blk) (B2 := w2.heap.size) HwW.out hb2.size
    obtain ⟨hU, hL, hq, hc, hcnt⟩ := HP.out
    refine wpIn_rangeFunc_tells (α := DRow) (F := Fence.wide) (encs := DRow.encs) (Kp := KeepT 184) (G := DTold N key n f w2.heap.size) (w0 := w2) rfl h1 rfl trivial (enters_of Try.func123 (by kernel_rfl) rfl)
      (duer_tells 1 (some ⟨b, 0, none⟩) K w1.heap.size (w1.heap.size + 1) N (under L K) key bj jj n f w2 hc1 hc2 hU.at_ hU.len (by rw [← hU.len]; exact Nat.le_trans (under_len L K) (by omega)) hU.hk hU.hn hU.hf (fun W1 hb => HUn.out W1 (hb2.trans (hb.mono hb2.size))))
      (fun h k => h.trans k) (fun V l o o' _ hl ho => KeepT.putObj V l o o' hl (isBook_cells ho)) (Below.refl _ _) (fun _ => rfl) (fun pre x V l o o' hG _ hl ho => hG.putObj o' hl (isBook_cells ho))
      (TkI w W b F L q key n f bj blk w2.heap.size) (fun c xs V => c = Code.exit 0 ∧ ∃ pre x, xs = pre ++ [x] ∧ pre.length < N ∧ blk < bj pre.length ∧ TkI w W b F L q key n f bj blk w2.heap.size pre V) hst ?_ hI0 (fun x => { tmps := #[.pointer (some ⟨b, 0, none⟩), .int .i64 blk, .pointer (some ⟨W.heap.size, 0, none⟩), .pointer (some ⟨W.heap.size + 1, 0, none⟩), .slice none 0 0, .pointer (some ⟨W.heap.size + 1 + 1, 0, none⟩), .pointer (some ⟨W.heap.size + 1 + 1 + 1, 0, none⟩), .string x.k, .slice (some ⟨x.g, 0, none⟩) x.n x.n, undef, undef, undef, .pointer (some ⟨b, 0, none⟩), .string K, .func (.func 123) #[] #[.pointer (some ⟨w1.heap.size, 0, none⟩), .pointer (some ⟨w1.heap.size + 1, 0, none⟩)], .string x.k, .slice (some ⟨x.g, 0, none⟩) x.n x.n, undef, undef, undef, undef, undef, undef, undef, undef, undef, undef, undef, undef, undef, undef, undef, undef, undef, undef, undef, undef, undef, undef, undef, undef, undef, undef, undef, undef, undef], defers := [] }) ?_ ?_ ?_ ?_
    · exact fun c => ⟨fun xs V V' h hb => by
        obtain ⟨hc, pre, x, g1, g2, g3, g4⟩ := h
        exact ⟨hc, pre, x, g1, g2, g3, hst.new _ _ _ g4 hb⟩, fun xs V l o o' h hl hlo ho => by
        obtain ⟨hc, pre, x, g1, g2, g3, g4⟩ := h
        exact ⟨hc, pre, x, g1, g2, g3, hst.put _ _ _ _ _ g4 hl hlo ho⟩⟩
    · intro l x V Kc hKc
      unfold DRow.encs
      gi_wp2
      exact hKc
    · rintro l pre x V hl hbk hI ⟨hlt, hx⟩
      have HI := Lib.hid hI
      have HX := Lib.hid hx
      have hkj := hU.hk _ hlt
      have e1 := hx.k
      obtain ⟨xk, exk⟩ : ∃ z, z = x.k := ⟨_, rfl⟩
      rw [← exk] at e1
      have HPl := Lib.hid (fun w => place_is _ _ xk (by rw [e1]; exact hkj.1) hkj.2.1 hkj.2.2 w)
      have hxn := hx.n
      obtain ⟨xn, exn⟩ : ∃ z, z = x.n := ⟨_, rfl⟩
      obtain ⟨xg, exg⟩ : ∃ z, z = x.g := ⟨_, rfl⟩
      have HDel := Lib.hid (fun (V1 : World) (hI1 : TkI w W b F L q key n f bj blk w2.heap.size pre V1) => by
        have h := hI1.del (by rw [← hkj.1]; have := keyStr_size 26 (two2 (bj pre.length) (jj pre.length)) 2; unfold maxLen; omega) (by omega) (by have := hU.len; have := under_len L K; omega)
        rwa [← e1] at h)
      obtain ⟨bjj, ebj⟩ : ∃ z, z = bj pre.length := ⟨_, rfl⟩
      rw [← ebj] at HPl
      have c0 := (hp_cell (i := 0) hI.sb).trans rfl
      have cA := (hp_cell (i := 0) hI.bb).trans rfl
      have cB := (hp_cell (i := 0) hI.rb).trans rfl
      have HSt := Lib.hid hst
      obtain ⟨i0, hi, hz0, hz1, hz2⟩ := info_parts infoIs
      have HN := Lib.hid (show pre.length < 1000 from by have := hU.len; have := under_len L K; omega)
      have HE := Lib.hid (And.intro exk (And.intro exn (And.intro exg (And.intro ebj hlt))))
      clear hI hx hkj e1 hxn hst hb0 r0 r1 r2 r3 hbd hb01 hb2 q0 q1 q2 q3 hI0 hU hL hq hc hcnt hbk hb1 hb hc1 hc2 hz cc z0 ebj
      dsimp only
      rw [← exk, ← exn, ← exg]
      clear exk exn exg hlt
      by_cases hgt : blk < bjj
      · gi_wp2_with (refine ⟨trivial, ?_⟩; gi_at_call 79; refine (CallsIn.inRound l (callsIn_wide.2 (HPl.out _))).mono ?_; rintro e w5 ⟨rfl, hb5⟩; have B5 := Lib.hid hb5; have cA5 := (hp_cell (i := 0) ((hb5.block _ (hp_lt HI.out.bb)).trans HI.out.bb)).trans rfl; clear hb5)
        exact ⟨KeepBook.of_below B5.out, rfl, pre, x, rfl, HE.out.2.2.2.2, by rw [← HE.out.2.2.2.1]; exact hgt, HSt.out.new _ _ _ HI.out B5.out⟩
      · have hgt' : bjj ≤ blk := by omega
        have hgd : decide (blk < bjj) = false := by simpa using hgt'
        obtain ⟨v, hv, ho⟩ := HI.out.tk
        have HV := Lib.hid hv
        have HO := Lib.hid ho
        clear hv ho
        gi_wp2_with (first
          | (gi_at_builtin; refine wpListIn_append_own _ rfl _ _ 44 rfl W.heap.size 30 i0 _ 1 24 Try.underlying44 hi hz0 hz1 hz2 rfl (by decide) _ _ _ rfl (HO6.out.alloc _) ⟨w6.heap.size, 0, none⟩ 1 1 [.slice (some ⟨xg, 0, none⟩) xn xn] rfl rfl (cell_one_new _ _ _) (by simp [Value.oneCell']) (by have := HN.out; unfold maxLen; omega) (by have := HN.out; omega) (by have := HJ.out.s.grows; simp; omega) ?_; intro v' w7 hown' hgrow _; obtain ⟨g', cap', rfl⟩ := ownsRow_succ hown'; have hb7 := tk_box HV6.out HO6.out hgrow; have HW7 := Lib.hid (And.intro hown' hgrow); have cT7 := (hp_cell (i := 0) hb7).trans rfl; have fT7 := hp_free (i := 0) hb7; clear hown' hgrow hb7)
          | (refine ⟨trivial, ?_⟩; gi_at_call 76; refine (CallsIn.inRound l (callsIn_wide.2 (HDel.out _ (HSt.out.new _ _ _ HI.out B5.out)))).mono ?_; rintro e w6 ⟨⟨bo, rfl⟩, hJ⟩; have HJ := Lib.hid hJ; have hv6 := (hJ.k _ fIss).2 _ _ _ ((KeepT.of_below B5.out).2 _ _ _ HV.out); have HV6 := Lib.hid hv6; have HO6 := Lib.hid (ownsRow_keepT (ownsRow_keepT HO.out (KeepT.of_below B5.out)) (hJ.k _ fIs)); have cT := (hp_cell (i := 0) hv6).trans rfl; clear hJ hv6)
          | (refine ⟨trivial, ?_⟩; gi_at_call 79; refine (CallsIn.inRound l (callsIn_wide.2 (HPl.out _))).mono ?_; rintro e w5 ⟨rfl, hb5⟩; have B5 := Lib.hid hb5; have cA5 := (hp_cell (i := 0) ((hb5.block _ (hp_lt HI.out.bb)).trans HI.out.bb)).trans rfl; have c05 := (hp_cell (i := 0) ((hb5.block _ (hp_lt HI.out.sb)).trans HI.out.sb)).trans rfl; clear hb5))
        have hI5 := HSt.out.new _ _ _ HI.out B5.out
        have hx5 := HX.out.keep (KeepT.of_below B5.out)
        obtain ⟨a1, a2, a3⟩ := TkI.add HwW.out hI5 HJ.out hx5 (by rw [← HE.out.2.2.2.1]; exact hgt') HV6.out HO6.out (x := x) (v' := .slice (some ⟨g', 0, none⟩) (pre.length + 1) cap') (by unfold DRow.val; rw [← HE.out.2.1, ← HE.out.2.2.1]; exact HW7.out.1) HW7.out.2
        exact ⟨(KeepBook.of_below B5.out).trans (a3 _), (KeepT.of_below B5.out).trans a2, a1⟩
    · rintro D pre V hD hS hI hK
      have hxN : pre.length ≤ N := Nat.le_of_eq hS
      have hend : pre.length = N ∨ blk < bj pre.length := .inl hS
      have HI := Lib.hid hI
      have hQ := HP.out
      obtain ⟨v, hv, ho⟩ := hI.tk
      have HO := Lib.hid ho
      have HV := Lib.hid hv
      have cT := (hp_cell (i := 0) hv).trans rfl
      have c0 := (hp_cell (i := 0) hI.sb).trans rfl
      have HLen := Lib.hid (fun (V1 : World) (hb1 : Below V.heap.size V V1) => show Calls Try.prog 31 #[.pointer (some ⟨b, 0, none⟩)] V1 fun e w' => e = .returned (.int .i64 (cnt : Nat)) ∧ Below V1.heap.size V1 w' from by
        obtain ⟨F1, q1, qs1, hs, _⟩ := hI.s.post hb1
        exact duelen_at hs T HkT.out cnt (by have := HP.out.2.2.2.1; omega) (HP.out.2.2.2.2 _ hxN))
      have HSt := Lib.hid (fun (V1 : World) (hb1 : Below V.heap.size V V1) => hI.count hb1 T ((cnt : Int) - (pre.length : Nat)) (by rw [← HkT.out]; have := keyStr_size 27 (fun _ => 0) 0; unfold maxLen; omega) (by rw [← HkT.out]; decide +kernel) (by have := HP.out.2.2.2.1; omega) HP.out.2.1 (by have := HP.out.2.2.1; have := hxN; have := HP.out.1.len; have := under_len L K; have := HP.out.2.1; omega))
      have HEnd := Lib.hid (And.intro hxN (And.intro hend (And.intro hD hK)))
      have i1 : IntKind.i64.wrap ((cnt : Int) - (pre.length : Nat)) = (cnt : Int) - (pre.length : Nat) := IntWalk.i64_in _ (by have := HP.out.2.2.2.1; have := hxN; have := HP.out.1.len; have := under_len L K; have := HP.out.2.1; omega)
      obtain ⟨M, eM⟩ : ∃ z, z = pre.length := ⟨_, rfl⟩
      rw [← eM] at ho i1 HSt
      obtain ⟨A, cp, rfl⟩ : ∃ A cp, v = .slice A M cp := by
        rcases ho.2 with ⟨rfl, h0⟩ | ⟨g, cap, cur, rfl, _⟩
        · exact ⟨none, 0, by rw [h0]⟩
        · exact ⟨_, cap, rfl⟩
      have HM := Lib.hid eM
      clear hI ho hv hst hb0 r0 r1 r2 r3 hbd hb01 hb2 q0 q1 q2 q3 hI0 hU hL hq hc hcnt hb1 hb hc1 hc2 hz cc z0 hQ hxN hend hD hK eM
      by_cases h0 : M = 0
      · subst h0
        have p1 : ¬ 0 < ((0 : Nat) : Int) := by omega
        gi_wp2
        have hE := TkE.same HI.out.s (Below.refl _ _) (Nat.le_succ _)
        have hp := tkPost_of (N := N) (T := T) (cnt := cnt) (D := D) HwW.out HI.out HB2.out HEnd.out.1 HEnd.out.2.1 HO.out (by rw [if_pos HM.out.symm]; have h2 := hE; rw [show dels L key pre.length = L from by rw [← HM.out]; rfl] at h2; exact h2) HEnd.out.2.2.1 HEnd.out.2.2.2
        refine ⟨by simp, .inl ⟨_, _, rfl, run_takeDeferred hp.1, ?_⟩⟩
        exact ⟨.slice A 0 cp, by simp [results, Try.results30, go_sem], hp.2⟩
      · have p1 : 0 < (M : Int) := by omega
        gi_wp2
        have f0 := fun (dq : Nat) (osq : Array Obj) => cell_regrown (w := V) (a := ⟨W.heap.size, 0, none⟩) c0 dq osq
        have f1 := fun (dq : Nat) (osq : Array Obj) => cell_regrown (w := V) (a := ⟨W.heap.size + 1 + 1, 0, none⟩) cT dq osq
        have HLr := Lib.hid (fun (dq : Nat) (osq : Array Obj) => HLen.out (grow (redrawn V dq) osq) (below_regrown V dq osq))
        refine wpIn_wide.2 ?_
        refine wp_region_quiet_tail 7 (by kernel_rfl) (by kernel_rfl) ?_
        simp only [List.take_succ_cons, List.take_zero]
        repeat (quiet_step (first
          | (go_at_call 31; with_reducible exact Calls.regrown_of (HLr.out _ _))
          | (go_at_call 81; with_reducible exact Calls.regrown_of (HTc.out _))))
        refine wpQuiet_nil ?_
        intro _ hw'
        obtain ⟨⟨dq, osq⟩, hw''⟩ := hw'
        subst hw''
        have HS8 := Lib.hid (HSt.out _ (below_regrown V dq osq))
        clear f0 f1 HLr
        simp only [List.drop_succ_cons, List.drop_zero]
        go_wp2_with (go_at_call 82; refine HS8.out.mono ?_; rintro e w9 ⟨rfl, hE⟩; have HE9 := Lib.hid hE; have cT9 := (hp_cell (i := 0) ((hE.k _ fIss).2 _ _ _ HV.out)).trans rfl; clear hE)
        gi_wp2
        have hp := tkPost_of (N := N) (T := T) (cnt := cnt) (D := D) HwW.out HI.out HB2.out HEnd.out.1 HEnd.out.2.1 HO.out (by rw [if_neg (by rw [← HM.out]; exact h0), ← HM.out]; exact HE9.out) HEnd.out.2.2.1 HEnd.out.2.2.2
        refine ⟨by simp, .inl ⟨_, _, rfl, run_takeDeferred hp.1, ?_⟩⟩
        exact ⟨.slice A M cp, by simp [results, Try.results30, go_sem], hp.2⟩
    · rintro D c xs V hD _ ⟨rfl, pre, x, rfl, hlt, hgt, hI⟩ hK
      have hxN : pre.length ≤ N := Nat.le_of_lt hlt
      have hend : pre.length = N ∨ blk < bj pre.length := .inr hgt
      clear hlt hgt
      have HI := Lib.hid hI
      have hQ := HP.out
      obtain ⟨v, hv, ho⟩ := hI.tk
      have HO := Lib.hid ho
      have HV := Lib.hid hv
      have cT := (hp_cell (i := 0) hv).trans rfl
      have c0 := (hp_cell (i := 0) hI.sb).trans rfl
      have HLen := Lib.hid (fun (V1 : World) (hb1 : Below V.heap.size V V1) => show Calls Try.prog 31 #[.pointer (some ⟨b, 0, none⟩)] V1 fun e w' => e = .returned (.int .i64 (cnt : Nat)) ∧ Below V1.heap.size V1 w' from by
        obtain ⟨F1, q1, qs1, hs, _⟩ := hI.s.post hb1
        exact duelen_at hs T HkT.out cnt (by have := HP.out.2.2.2.1; omega) (HP.out.2.2.2.2 _ hxN))
      have HSt := Lib.hid (fun (V1 : World) (hb1 : Below V.heap.size V V1) => hI.count hb1 T ((cnt : Int) - (pre.length : Nat)) (by rw [← HkT.out]; have := keyStr_size 27 (fun _ => 0) 0; unfold maxLen; omega) (by rw [← HkT.out]; decide +kernel) (by have := HP.out.2.2.2.1; omega) HP.out.2.1 (by have := HP.out.2.2.1; have := hxN; have := HP.out.1.len; have := under_len L K; have := HP.out.2.1; omega))
      have HEnd := Lib.hid (And.intro hxN (And.intro hend (And.intro hD hK)))
      have i1 : IntKind.i64.wrap ((cnt : Int) - (pre.length : Nat)) = (cnt : Int) - (pre.length : Nat) := IntWalk.i64_in _ (by have := HP.out.2.2.2.1; have := hxN; have := HP.out.1.len; have := under_len L K; have := HP.out.2.1; omega)
      obtain ⟨M, eM⟩ : ∃ z, z = pre.length := ⟨_, rfl⟩
      rw [← eM] at ho i1 HSt
      obtain ⟨A, cp, rfl⟩ : ∃ A cp, v = .slice A M cp := by
        rcases ho.2 with ⟨rfl, h0⟩ | ⟨g, cap, cur, rfl, _⟩
        · exact ⟨none, 0, by rw [h0]⟩
        · exact ⟨_, cap, rfl⟩
      have HM := Lib.hid eM
      clear hI ho hv hst hb0 r0 r1 r2 r3 hbd hb01 hb2 q0 q1 q2 q3 hI0 hU hL hq hc hcnt hb1 hb hc1 hc2 hz cc z0 hQ hxN hend hD hK eM
      by_cases h0 : M = 0
      · subst h0
        have p1 : ¬ 0 < ((0 : Nat) : Int) := by omega
        gi_wp2
        have hE := TkE.same HI.out.s (Below.refl _ _) (Nat.le_succ _)
        have hp := tkPost_of (N := N) (T := T) (cnt := cnt) (D := D) HwW.out HI.out HB2.out HEnd.out.1 HEnd.out.2.1 HO.out (by rw [if_pos HM.out.symm]; have h2 := hE; rw [show dels L key pre.length = L from by rw [← HM.out]; rfl] at h2; exact h2) HEnd.out.2.2.1 HEnd.out.2.2.2
        refine ⟨by simp, .inl ⟨_, _, rfl, run_takeDeferred hp.1, ?_⟩⟩
        exact ⟨.slice A 0 cp, by simp [results, Try.results30, go_sem], hp.2⟩
      · have p1 : 0 < (M : Int) := by omega
        gi_wp2
        have f0 := fun (dq : Nat) (osq : Array Obj) => cell_regrown (w := V) (a := ⟨W.heap.size, 0, none⟩) c0 dq osq
        have f1 := fun (dq : Nat) (osq : Array Obj) => cell_regrown (w := V) (a := ⟨W.heap.size + 1 + 1, 0, none⟩) cT dq osq
        have HLr := Lib.hid (fun (dq : Nat) (osq : Array Obj) => HLen.out (grow (redrawn V dq) osq) (below_regrown V dq osq))
        refine wpIn_wide.2 ?_
        refine wp_region_quiet_tail 7 (by kernel_rfl) (by kernel_rfl) ?_
        simp only [List.take_succ_cons, List.take_zero]
        repeat (quiet_step (first
          | (go_at_call 31; with_reducible exact Calls.regrown_of (HLr.out _ _))
          | (go_at_call 81; with_reducible exact Calls.regrown_of (HTc.out _))))
        refine wpQuiet_nil ?_
        intro _ hw'
        obtain ⟨⟨dq, osq⟩, hw''⟩ := hw'
        subst hw''
        have HS8 := Lib.hid (HSt.out _ (below_regrown V dq osq))
        clear f0 f1 HLr
        simp only [List.drop_succ_cons, List.drop_zero]
        go_wp2_with (go_at_call 82; refine HS8.out.mono ?_; rintro e w9 ⟨rfl, hE⟩; have HE9 := Lib.hid hE; have cT9 := (hp_cell (i := 0) ((hE.k _ fIss).2 _ _ _ HV.out)).trans rfl; clear hE)
        gi_wp2
        have hp := tkPost_of (N := N) (T := T) (cnt := cnt) (D := D) HwW.out HI.out HB2.out HEnd.out.1 HEnd.out.2.1 HO.out (by rw [if_neg (by rw [← HM.out]; exact h0), ← HM.out]; exact HE9.out) HEnd.out.2.2.1 HEnd.out.2.2.2
        refine ⟨by simp, .inl ⟨_, _, rfl, run_takeDeferred hp.1, ?_⟩⟩
        exact ⟨.slice A M cp, by simp [results, Try.results30, go_sem], hp.2⟩
end Go.Proofs.Ytedkhpnlhkjjgaa

namespace Go.Proofs.Ytedkhpnlhkjjgaa
open Go.RowKit Go.Maps Go.Sort

set_option maxRecDepth 100000 in
set_option maxHeartbeats 400000 in
theorem hlen_dead (P : Option Addr) (t : Int) (A : Option Addr) (n c : Nat) (f : Nat → Int) (w : World) (h : SDead w (.pointer P)) (hl : Il w A n f) (hn : n ≤ 20) :
    Calls Try.prog 17 #[.pointer P, .int .i64 t, .slice A n c] w fun e w' => e = .returned (.int .i64 ((0 : Nat) : Int)) ∧ Below w.heap.size w w' := by
  have HK := Lib.hid (key_some t A n c f w hl (by omega))
  have HD := Lib.hid h
  clear h hl hn
  go_enter Try.func17, Try.ntmps17
  go_wp2_with (first
    | (go_at_call 61; refine (cint_dead _ K w1 (HD.out.below HB1.out)).mono ?_; rintro e w2 ⟨rfl, hb2⟩; have HB2 := Lib.hid (HB1.out.trans (hb2.mono HB1.out.size)); clear hb2)
    | (go_at_call 60; refine HK.out.mono ?_; rintro e w1 ⟨⟨K, rfl, _⟩, hb1⟩; have HB1 := Lib.hid hb1; clear hb1))
  go_ret
  exact ⟨rfl, HB2.out⟩
set_option maxRecDepth 100000 in
set_option maxHeartbeats 400000 in
theorem hlen_live {w W : World} {b : Nat} {F : List Nat} {L : SL} {q : Nat} {qs : List Value} (h : SNew w W b F L q qs) (t : Int) (A : Option Addr) (n c : Nat) (f : Nat → Int) (hl : Il W A n f) (hn : n ≤ 20) (K : ByteArray) (hK : keyStr t f n = K) (hk : K.size ≤ maxLen) (m : Nat) (he : intAt L K m) (hm : m < 2 ^ 63) :
    Calls Try.prog 17 #[.pointer (some ⟨b, 0, none⟩), .int .i64 t, .slice A n c] W fun e W' => e = .returned (.int .i64 (m : Nat)) ∧ Below W.heap.size W W' := by
  have HK := Lib.hid (key_is t A n c f K hK W hl (by omega))
  have HI := Lib.hid (fun (W1 : World) (hb : Below W.heap.size W W1) => cint_at (h.below hb) K m hk he hm)
  clear h hK hl hk he hn hm
  go_enter Try.func17, Try.ntmps17
  go_wp2_with (first
    | (go_at_call 61; refine (HI.out w1 HB1.out).mono ?_; rintro e w2 ⟨rfl, hb2⟩; have HB2 := Lib.hid (HB1.out.trans (hb2.mono HB1.out.size)); clear hb2)
    | (go_at_call 60; refine HK.out.mono ?_; rintro e w1 ⟨rfl, hb1⟩; have HB1 := Lib.hid hb1; clear hb1))
  go_ret
  exact ⟨rfl, HB2.out⟩
/-- the halving search -/
def hbs (rx : Int → Int) (ro : Int → Bool) (blk : Int) : Nat → Nat → Nat → Nat
  | 0, l, _ => l
  | k + 1, l, h => if l < h then (if ro ((l + (h - l) / 2 : Nat) : Int) = true ∧ rx ((l + (h - l) / 2 : Nat) : Int) ≤ blk then hbs rx ro blk k (l + (h - l) / 2 + 1) h else hbs rx ro blk k l (l + (h - l) / 2)) else l
theorem hbs_le (rx : Int → Int) (ro : Int → Bool) (blk : Int) : ∀ k l h, l ≤ h → hbs rx ro blk k l h ≤ h
  | 0, _, _, hl => hl
  | k + 1, l, h, hl => by
    unfold hbs
    split
    · split
      · exact hbs_le rx ro blk k _ _ (by omega)
      · exact Nat.le_trans (hbs_le rx ro blk k _ _ (by omega)) (by omega)
    · exact hl
/-- what a reader tells, at whatever block its boxes lie -/
def Reads (w : World) (P : Option Addr) (t : Int) (A : Option Addr) (n c : Nat) (f : Nat → Int) (k : Int) (x : Int) (a : Nat) (o : Bool) : Prop :=
  ∀ (b : Nat) (W : World), Below w.heap.size w W → HisAt W b P t A n c f → Calls Try.prog 112 #[.int .i64 k, .pointer (some ⟨b, 0, none⟩), .pointer (some ⟨b + 1, 0, none⟩), .pointer (some ⟨b + 1 + 1, 0, none⟩)] W fun e w' => e = .returned (hisV x a o) ∧ Below W.heap.size W w'
set_option maxRecDepth 100000 in
set_option maxHeartbeats 2000000 in
theorem hat_walk (P : Option Addr) (t : Int) (A : Option Addr) (n c : Nat) (f : Nat → Int) (blk : Int) (m : Nat) (rx : Int → Int) (ra : Int → Nat) (ro : Int → Bool) (w : World) (hl : Il w A n f) (hz : A = none → n = 0 ∧ c = 0) (hn : n ≤ 20) (hm : m ≤ 1099511627776)
    (HL : ∀ W, Below w.heap.size w W → Calls Try.prog 17 #[.pointer P, .int .i64 t, .slice A n c] W fun e w' => e = .returned (.int .i64 (m : Nat)) ∧ Below W.heap.size W w')
    (HR : ∀ k : Int, -1 ≤ k → k < m → Reads w P t A n c f k (rx k) (ra k) (ro k)) (Z : Nat) (hZ : hbs rx ro blk m 0 m = Z) :
    Calls Try.prog 15 #[.pointer P, .int .i64 t, .slice A n c, .int .i64 blk] w fun e w' => e = .returned (.tuple #[U (ra ((Z : Int) - 1)), .bool (ro ((Z : Int) - 1))]) ∧ Below w.heap.size w w' := by
  have HRd := Lib.hid (fun w => reader_walk P t A n c w)
  have HLn := Lib.hid HL
  have HRs := Lib.hid HR
  have HI := Lib.hid (And.intro hl (And.intro hz hn))
  have HZ := Lib.hid (And.intro hZ hm)
  have hb0 := (Below.refl w.heap.size w).alloc (Nat.le_refl _) (.cells #[.int .u64 0, .int .u64 0, .int .u64 0, .int .u64 0] 29)
  have r0 := heap_alloc_new w (.cells #[.int .u64 0, .int .u64 0, .int .u64 0, .int .u64 0] 29)
  have H0 := Lib.hid (And.intro hb0 r0)
  clear HL HR hl hz hn hZ hm hb0 r0
  go_enter Try.func15, Try.ntmps15
  go_wp2
  go_step3
  go_wp2_with (first
    | (go_at_call 17; refine (HLn.out w1 H1.out.1).mono ?_; rintro e w2 ⟨rfl, hb2⟩; have H2 := Lib.hid (And.intro (H1.out.1.trans (hb2.mono H1.out.1.size)) (And.intro (H1.out.2.1.below hb2) ((hb2.block _ (hp_lt H1.out.2.2)).trans H1.out.2.2))); clear hb2)
    | (go_at_call 62; refine (HRd.out _).mono ?_; rintro e w1 ⟨rfl, hb1, hc0, hc1, hc2, hlt⟩; rw [World.size_alloc] at hc0 hc1 hc2 hlt; have hbx := H0.out.1.trans (hb1.mono H0.out.1.size); have H1 := Lib.hid (And.intro hbx (And.intro (show HisAt w1 (w.heap.size + 1) P t A n c f from ⟨hc0, hc1, hc2, hlt, HI.out.1.below hbx, HI.out.2.1, HI.out.2.2⟩) ((hb1.block w.heap.size (by simp)).trans H0.out.2))); clear hb1 hc0 hc1 hc2 hlt hbx))
  go_step3
  go_wp2
  go_loopw [11, 12] (fun lo hi wr => ∃ l h k : Nat, lo = .int .i64 (l : Nat) ∧ hi = .int .i64 (h : Nat) ∧ l ≤ h ∧ h ≤ m ∧ h - l ≤ k ∧ hbs rx ro blk k l h = Z ∧ Below w.heap.size w wr ∧ HisAt wr (w.heap.size + 1) P t A n c f ∧ wr.heap[w.heap.size]? = some (.cells #[.int .u64 0, .int .u64 0, .int .u64 0, .int .u64 0] 29 (0, 0))) (fun lo hi _ => ((intOf hi).toNat - (intOf lo).toNat))
  case atStart => exact ⟨0, m, m, rfl, rfl, by omega, by omega, by omega, HZ.out.1, H2.out.1, H2.out.2.1, H2.out.2.2⟩
  case round =>
    obtain ⟨l, h, k, rfl, rfl, hlh, hhm, hk, hzz, hb, hi, hr⟩ := hrel
    have HC := Lib.hid (And.intro hb (And.intro hi hr))
    have HK := Lib.hid (And.intro hk hzz)
    have hM := HZ.out.2
    clear hb hi hr hk hzz
    by_cases hlt : l < h
    · have p1 : ¬ (h : Int) ≤ (l : Int) := by omega
      obtain ⟨D, hD⟩ : ∃ D : Nat, D = (h - l) / 2 := ⟨_, rfl⟩
      obtain ⟨M, hMd⟩ : ∃ M : Nat, M = l + D := ⟨_, rfl⟩
      have e1 : ((h : Int) - (l : Int)).tdiv 2 = (D : Int) := by rw [Int.tdiv_eq_ediv_of_nonneg (by omega)]; omega
      have e2 : (l : Int) + (D : Int) = (M : Int) := by omega
      have hMm : M < m := by omega
      have hMM : (M : Int) < 1099511627776 := by omega
      have kh : (h : Int) ≤ 1099511627776 := by omega
      have kl : (l : Int) < (h : Int) := by omega
      have kD : (D : Int) ≤ 1099511627776 := by omega
      have HRm := HRs.out (M : Int) (by omega) (by omega) (w.heap.size + 1) wr HC.out.1 HC.out.2.1
      have HKs := HK.out
      obtain ⟨k, rfl⟩ : ∃ k', k = k' + 1 := ⟨k - 1, by omega⟩
      have hst : hbs rx ro blk (k + 1) l h = if ro (M : Int) = true ∧ rx (M : Int) ≤ blk then hbs rx ro blk k (M + 1) h else hbs rx ro blk k l M := by
        rw [hbs, if_pos hlt, ← hD, ← hMd]
      rw [hst] at HKs
      clear hst
      obtain ⟨x, hx⟩ : ∃ x, x = rx (M : Int) := ⟨_, rfl⟩
      obtain ⟨a, ha⟩ : ∃ a, a = ra (M : Int) := ⟨_, rfl⟩
      obtain ⟨o, ho⟩ : ∃ o, o = ro (M : Int) := ⟨_, rfl⟩
      rw [← hx, ← ha, ← ho] at HRm
      rw [← hx, ← ho] at HKs
      unfold hisV U at HRm
      have HR1 := Lib.hid HRm
      have HK1 := Lib.hid (And.intro HKs (And.intro hMm (And.intro hD (And.intro hMd (And.intro hlh hhm)))))
      clear HRm HKs hx ha ho hMm hD hMd hlh hhm hM hlt
      have Hend : Hid (∀ w4 : World, Below wr.heap.size wr w4 → Below w.heap.size w (w4.alloc (.cells #[.int .u64 (limb a 0 : Nat), .int .u64 (limb a 1 : Nat), .int .u64 (limb a 2 : Nat), .int .u64 (limb a 3 : Nat)] 29)) ∧ HisAt (w4.alloc (.cells #[.int .u64 (limb a 0 : Nat), .int .u64 (limb a 1 : Nat), .int .u64 (limb a 2 : Nat), .int .u64 (limb a 3 : Nat)] 29)) (w.heap.size + 1) P t A n c f ∧ (w4.alloc (.cells #[.int .u64 (limb a 0 : Nat), .int .u64 (limb a 1 : Nat), .int .u64 (limb a 2 : Nat), .int .u64 (limb a 3 : Nat)] 29)).heap[w.heap.size]? = some (.cells #[.int .u64 0, .int .u64 0, .int .u64 0, .int .u64 0] 29 (0, 0))) := Lib.hid fun w4 hb4 => by
        have hbx := hb4.trans (((Below.refl w4.heap.size w4).alloc (Nat.le_refl _) (.cells #[.int .u64 (limb a 0 : Nat), .int .u64 (limb a 1 : Nat), .int .u64 (limb a 2 : Nat), .int .u64 (limb a 3 : Nat)] 29)).mono hb4.size)
        exact ⟨HC.out.1.trans (hbx.mono HC.out.1.size), HC.out.2.1.below hbx, (hbx.block _ (hp_lt HC.out.2.2)).trans HC.out.2.2⟩
      cases o with
      | true =>
        by_cases hxb : x ≤ blk
        · go_wp2_with (go_at_call 112; with_reducible refine HR1.out.mono ?_; rintro e w4 ⟨rfl, hb4⟩; have HB4 := Lib.hid hb4; clear hb4)
          have hE := Hend.out _ HB4.out
          obtain ⟨g1, g2, g3, g4, g5, g6⟩ := HK1.out
          rw [if_pos (by simp [hxb])] at g1
          exact ⟨⟨M + 1, h, k, by simp, rfl, by omega, by omega, by omega, g1.2, hE.1, hE.2.1, hE.2.2⟩, by simp [intOf]; omega⟩
        · have HX := Lib.hid hxb
          have hxb2 : decide (x ≤ blk) = false := decide_eq_false hxb
          clear hxb
          go_wp2_with (go_at_call 112; with_reducible refine HR1.out.mono ?_; rintro e w4 ⟨rfl, hb4⟩; have HB4 := Lib.hid hb4; clear hb4)
          have hxb := HX.out
          have hE := Hend.out _ HB4.out
          obtain ⟨g1, g2, g3, g4, g5, g6⟩ := HK1.out
          rw [if_neg (fun h => absurd h.2 (by omega))] at g1
          exact ⟨⟨l, M, k, rfl, rfl, by omega, by omega, by omega, g1.2, hE.1, hE.2.1, hE.2.2⟩, by simp [intOf]; omega⟩
      | false =>
        go_wp2_with (go_at_call 112; with_reducible refine HR1.out.mono ?_; rintro e w4 ⟨rfl, hb4⟩; have HB4 := Lib.hid hb4; clear hb4)
        have hE := Hend.out _ HB4.out
        obtain ⟨g1, g2, g3, g4, g5, g6⟩ := HK1.out
        rw [if_neg (fun h => by cases h.1)] at g1
        exact ⟨⟨l, M, k, rfl, rfl, by omega, by omega, by omega, g1.2, hE.1, hE.2.1, hE.2.2⟩, by simp [intOf]; omega⟩
    · have p1 : (h : Int) ≤ (l : Int) := by omega
      have hZl : l = Z := by
        have := HK.out.2
        cases k with
        | zero => exact this
        | succ k => rw [hbs, if_neg hlt] at this; exact this
      subst hZl
      have kl : (l : Int) ≤ 1099511627776 := by omega
      have HRm := HRs.out ((l : Int) - 1) (by omega) (by omega) (w.heap.size + 1) wr HC.out.1 HC.out.2.1
      obtain ⟨x, hx⟩ : ∃ x, x = rx ((l : Int) - 1) := ⟨_, rfl⟩
      obtain ⟨a, ha⟩ : ∃ a, a = ra ((l : Int) - 1) := ⟨_, rfl⟩
      obtain ⟨o, ho⟩ : ∃ o, o = ro ((l : Int) - 1) := ⟨_, rfl⟩
      rw [← hx, ← ha, ← ho] at HRm
      unfold hisV U at HRm
      have HR1 := Lib.hid HRm
      have HA := Lib.hid (And.intro ha ho)
      clear HRm hx ha ho hM hlt hlh hhm
      go_wp2_with (go_at_call 112; with_reducible refine HR1.out.mono ?_; rintro e w4 ⟨rfl, hb4⟩; have HB4 := Lib.hid hb4; have r4 := (hb4.block w.heap.size (hp_lt HC.out.2.2)).trans HC.out.2.2; have R4 := Lib.hid r4; have d0 := (hp_cell (i := 0) r4).trans rfl; have d1 := (hp_cell (i := 1) r4).trans rfl; have d2 := (hp_cell (i := 2) r4).trans rfl; have d3 := (hp_cell (i := 3) r4).trans rfl; have g0 := hp_free (i := 0) r4; have g1 := hp_free (i := 1) r4; have g2 := hp_free (i := 2) r4; have g3 := hp_free (i := 3) r4; clear hb4 r4)
      rw [Exit.noGoto_ret]
      obtain ⟨e0, e1, e2, e3⟩ := (((arr_zero R4.out).put4 (n := a)).put4 (n := a)).cells4
      refine bodyPost_ret (v := .tuple #[.agg #[.int .u64 (limb a 0 : Nat), .int .u64 (limb a 1 : Nat), .int .u64 (limb a 2 : Nat), .int .u64 (limb a 3 : Nat)], .bool o]) (by simp [results, Try.results15, go_sem, e0, e1, e2, e3]) rfl ⟨?_, ?_⟩
      · rw [← HA.out.1, ← HA.out.2]
        rfl
      · exact below_set4 (below_set4 (HC.out.1.trans (HB4.out.mono HC.out.1.size)) (Nat.le_refl _)) (Nat.le_refl _)
end Go.Proofs.Ytedkhpnlhkjjgaa
