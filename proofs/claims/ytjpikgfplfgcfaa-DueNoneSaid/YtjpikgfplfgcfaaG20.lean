/- keys.Parse of a key, tallageref09.Ints, walked. -/
import Derived.Test.YtjpikgfplfgcfaaG19
import Derived.Test.YtjpikgfplfgcfaaG17
import Derived.Test.YtjpikgfplfgcfaaG13
import Derived.RangeFuncWrites
namespace Go.Proofs.Ytjpikgfplfgcfaa
open Go.RowKit

/-- the text of numbers, one behind the other -/
def valStr (f : Nat → Int) (n : Nat) : ByteArray := strOfNums (ints (tl f 0 n))
theorem valStr_list (f : Nat → Int) (n : Nat) : (valStr f n).data.toList = u8l (tl f 0 n) := by
  unfold valStr
  rw [strOfNums_data]
  simp [u8l, ints]
theorem tl_length (f : Nat → Int) (r : Nat) : ∀ d, (tl f r d).length = 8 * d
  | 0 => by simp [tl]
  | d + 1 => by rw [tl_snoc, List.length_append, tl_length f r d]; simp [kb8]; omega
theorem valStr_size (f : Nat → Int) (n : Nat) : (valStr f n).size = 8 * n := by unfold valStr; rw [strOfNums_size]; simp [ints, tl_length]
theorem i64n_get (f : Nat → Nat) {k i : Nat} (h : i < k) : (i64n f k)[i]? = some (.int .i64 (f i : Nat)) := by simp [i64n, h]
theorem ownN_Il {w : World} {B e : Nat} {v : Value} {n : Nat} {f : Nat → Int} {g : Nat → Nat} (hf : ∀ i, f i < 2 ^ 63) (hg : ∀ i, i < n → (g i : Int) = f i) (h : w.ownsRow B e 1 v n (i64n g n)) : ∃ A c, v = .slice A n c ∧ Il w A n f := by
  rcases h.2 with ⟨rfl, rfl⟩ | ⟨b, cap, cur, rfl, hb, hh, r⟩
  · exact ⟨none, 0, rfl, hf, fun h => absurd h (by omega)⟩
  · refine ⟨some ⟨b, 0, none⟩, cap, rfl, hf, fun _ => ⟨b, 0, rfl, lt_of_block hh, fun i hi => ?_⟩⟩
    rw [Nat.zero_add, h.cellAt i (by omega), i64n_get g hi, hg i hi]
/-- the numbers of a text that is made of numbers -/
theorem nums_yes_c (v : ByteArray) (f : Nat → Int) (n : Nat) (w : World) (hn : n ≤ 100) (hv : v.data.toList = u8l (tl f 0 n)) (hf : ∀ i, i < n → 0 ≤ f i) (hm : ∀ i, f i < 2 ^ 63) :
    Calls Try.prog 136 #[.string v] w fun e w' => (∃ A c, e = .returned (.tuple #[.slice A n c, .bool true]) ∧ Il w' A n f) ∧ Below w.heap.size w w' := by
  have hsz : v.size = 8 * n := by
    have : v.data.toList.length = 8 * n := by rw [hv]; simp [u8l, tl_length]
    rw [Array.length_toList] at this
    exact this
  have hch : ∀ i, i < n → (chunk v i : Int) = f i := fun i hi => by rw [chunk_tl hv hi (hm i)]; exact Int.toNat_of_nonneg (hf i hi)
  refine (nums_walk v n w hsz hn).mono fun e w' ⟨h, hw⟩ => ⟨?_, hw⟩
  rcases h with ⟨_, he, ho⟩ | ⟨⟨i, hi, hno⟩, _⟩
  · obtain ⟨A, c, e1, il⟩ := ownN_Il (f := f) hm hch ho
    exact ⟨A, c, by rw [he, e1], il⟩
  · exact absurd (show chunk v i < 2 ^ 63 by have := hch i hi; have := hm i; omega) hno
set_option maxRecDepth 100000 in
set_option maxHeartbeats 1000000 in
theorem ints_walk (A B : Option Addr) (n m c d : Nat) (f g : Nat → Int) (w : World) (ha : Il w A n f) (hb : Il w B m g) (hn : n ≤ 100) (h : n = m ∧ ∀ i, i < n → f i = g i) :
    Calls Try.prog 43 #[.slice A n c, .slice B m d] w fun e w' => e = .returned (.bool true) ∧ Below w.heap.size w w' := by
  obtain ⟨rfl, he⟩ := h
  have hnI : (n : Int) ≤ 100 := by omega
  have He := Lib.hid he
  clear he
  go_enter Try.func43, Try.ntmps43
  go_wp2
  go_loopw [13] (fun i wr => ∃ k : Nat, k ≤ n ∧ i = .int .i64 (k : Nat) ∧ Below w.heap.size w wr) (fun x _ => n - (intOf x).toNat)
  case atStart => exact ⟨0, by omega, rfl, Below.refl _ _⟩
  case round =>
    obtain ⟨k, hk, rfl, hbel⟩ := hrel
    have kI : (k : Int) ≤ n := by omega
    by_cases hlt : k < n
    · obtain ⟨ga, oa, rfl, hga, hxa⟩ := ha.at_ (by omega)
      obtain ⟨gb, ob, rfl, hgb, hxb⟩ := hb.at_ (by omega)
      have q1 : (k : Int) < n := by omega
      have q2 : IntKind.i64.wrap ((k : Int) + 1) = (k : Int) + 1 := IntWalk.i64_in _ (by omega)
      have hfg := He.out k hlt
      have c1 : wr.cell? ⟨ga, oa + k, none⟩ = some (.int .i64 (f k)) := by rw [hbel.cell (p := ⟨ga, oa + k, none⟩) hga]; exact hxa k hlt
      have c2 : wr.cell? ⟨gb, ob + k, none⟩ = some (.int .i64 (f k)) := by rw [hbel.cell (p := ⟨gb, ob + k, none⟩) hgb, hfg]; exact hxb k hlt
      clear ha hb hxa hxb hfg
      go_wp2
      go_region
      all_goals
        go_wp2
        go_roundw
        case rel => exact ⟨k + 1, by omega, by go_num, below_drewN hbel 1⟩
        case measure => simp [intOf]; omega
    · obtain rfl : k = n := by omega
      have q1 : ¬ (k : Int) < k := by omega
      go_wp2
      go_ret
      exact ⟨rfl, hbel⟩
set_option maxRecDepth 100000 in
set_option maxHeartbeats 1000000 in
theorem parse_text_walk (s : ByteArray) (t n : Nat) (f : Nat → Int) (w : World) (hn : n ≤ 100) (h0 : 0 < s.size) (hs0 : (s[0]'h0).toNat = t) (ht : t ≠ 0) (hv : (s.extract 1 s.size).data.toList = u8l (tl f 0 n)) (hf : ∀ i, i < n → 0 ≤ f i) (hm : ∀ i, f i < 2 ^ 63) :
    Calls Try.prog 143 #[.string s] w fun e w' => (∃ A c, e = .returned (.tuple #[.int .i64 (t : Nat), .slice A n c, .bool true]) ∧ Il w' A n f) ∧ Below w.heap.size w w' := by
  have e0 : s.toList.isEmpty = false := by
    have : s.toList.length = s.size := by rw [ByteArray.toList_eq]; simp
    cases h : s.toList with
    | nil => rw [h] at this; simp at this; omega
    | cons a l => rfl
  have b1 : ((t : Int) == 0) = false := by rw [beq_eq_false_iff_ne]; omega
  have b2 : IntKind.i64.wrap (t : Int) = (t : Int) := IntWalk.i64_in _ (by have := UInt8.toNat_lt (s[0]'h0); omega)
  have HN := Lib.hid (fun w => nums_yes_c (s.extract 1 s.size) f n w hn hv hf hm)
  clear hv hf hm ht
  go_enter Try.func143, Try.ntmps143
  go_wp2_with (go_at_call 136; refine (HN.out _).mono ?_; rintro e w1 ⟨⟨A, c, rfl, il⟩, hb1⟩)
  refine bodyPost_ret (v := .tuple #[.int .i64 (t : Nat), .slice A n c, .bool true]) (by simp [results, Try.results143, go_sem]) rfl ⟨⟨A, c, rfl, il⟩, hb1⟩
theorem keyStr_yes {t : Nat} {f : Nat → Int} {n : Nat} (h1 : 1 ≤ t) (h2 : t ≤ 255) (hf : ∀ i, i < n → 0 ≤ f i) : keyStr t f n = strOfNums (ints (t :: tl f 0 n)) := by
  unfold keyStr
  rw [if_pos ⟨by omega, by omega, hf⟩, Int.toNat_natCast, kbs_tl]
theorem parse_key_c (t : Nat) (f : Nat → Int) (n : Nat) (w : World) (h1 : 1 ≤ t) (h2 : t ≤ 255) (hn : n ≤ 100) (hf : ∀ i, i < n → 0 ≤ f i) (hm : ∀ i, f i < 2 ^ 63) :
    Calls Try.prog 143 #[.string (keyStr t f n)] w fun e w' => (∃ A c, e = .returned (.tuple #[.int .i64 (t : Nat), .slice A n c, .bool true]) ∧ Il w' A n f) ∧ Below w.heap.size w w' := by
  have hk := keyStr_yes h1 h2 hf
  have hsz : (keyStr t f n).size = 8 * n + 1 := by rw [hk, strOfNums_size]; simp [ints, tl_length]
  have hl : (keyStr t f n).data.toList = UInt8.ofNat t :: u8l (tl f 0 n) := by rw [hk, strOfNums_data]; simp [u8l, ints]
  refine parse_text_walk (keyStr t f n) t n f w hn (by omega) ?_ (by omega) ?_ hf hm
  · have e : (keyStr t f n)[0] = UInt8.ofNat t := by
      have h3 : (keyStr t f n).data.toList[0]? = some (UInt8.ofNat t) := by rw [hl]; rfl
      have h4 : (keyStr t f n).data[0]? = some (UInt8.ofNat t) := by rw [← Array.getElem?_toList]; exact h3
      have h5 := Array.getElem?_eq_some_iff.1 h4
      exact h5.2
    rw [e, UInt8.toNat_ofNat']
    exact Nat.mod_eq_of_lt (by omega)
  · have h3 : ((keyStr t f n).extract 1 (keyStr t f n).size).data.toList = (keyStr t f n).data.toList.drop 1 := by
      rw [ByteArray.data_extract, Array.toList_extract]
      simp only [List.extract_eq_take_drop]
      refine List.take_of_length_le ?_
      rw [List.length_drop, Array.length_toList]
      exact Nat.le_refl _
    rw [h3, hl]; rfl
end Go.Proofs.Ytjpikgfplfgcfaa

namespace Go.Proofs.Ytjpikgfplfgcfaa
open Go.RowKit Go.Maps Go.Sort

set_option maxRecDepth 100000 in
set_option maxHeartbeats 1000000 in
theorem place_is (blk j : Int) (K : ByteArray) (hK : keyStr 26 (two2 blk j) 2 = K) (h0 : 0 ≤ blk ∧ blk < 2 ^ 63) (h1 : 0 ≤ j ∧ j < 2 ^ 63) (w : World) :
    Calls Try.prog 112 #[.string K] w fun e w' => e = .returned (.tuple #[.int .i64 blk, .int .i64 j, .bool true]) ∧ Below w.heap.size w w' := by
  have hP := parse_key_c 26 (two2 blk j) 2 w (by omega) (by omega) (by omega) (fun i _ => by unfold two2; split <;> omega) (fun i => by unfold two2; split <;> omega)
  rw [show ((26 : Nat) : Int) = 26 from rfl, hK] at hP
  have HP := Lib.hid hP
  clear hP hK h0 h1
  go_enter Try.func112, Try.ntmps112
  go_wp2_with (go_at_call 143; refine HP.out.mono ?_; rintro e w1 ⟨⟨A, c, rfl, hl⟩, hb1⟩; obtain ⟨g, o, rfl, _, hc⟩ := hl.at_ (by omega); have d0 := hc 0 (by omega); have d1 := hc 1 (by omega); simp only [two2, Nat.add_zero] at d0 d1; have HB1 := Lib.hid hb1; clear hb1 hl hc)
  all_goals go_region
  all_goals go_wp2
  all_goals exact bodyPost_ret (v := .tuple #[.int .i64 blk, .int .i64 j, .bool true]) (by simp [results, Try.results112, go_sem]) rfl ⟨rfl, HB1.out.drew⟩
end Go.Proofs.Ytjpikgfplfgcfaa

namespace Go.Proofs.Ytjpikgfplfgcfaa
open Go.RowKit

/-- the two kinds of blocks that a loop keeps its books in -/
def isBook : Obj → Bool
  | .loop _ => true
  | .deferred _ => true
  | _ => false
theorem isBook_cells {o : Obj} (h : isBook o = true) : o.isCells = false := by cases o <;> first | rfl | cases h
theorem isBook_walk {o : Obj} (h : isBook o = true) : o.isWalk = false := by cases o <;> first | rfl | cases h
/-- what abides new blocks, and the books of loops that began behind B -/
structure Stays {β : Type} (B : Nat) (I : β → World → Prop) : Prop where
  new : ∀ s W W', I s W → Below W.heap.size W W' → I s W'
  put : ∀ s W (l : Nat) (o o' : Obj), I s W → B ≤ l → W.heap[l]? = some o → isBook o = true → I s (W.putObj l o')
theorem Stays.alloc {β : Type} {B : Nat} {I : β → World → Prop} (h : Stays B I) {s : β} {W : World} (o : Obj) (hs : I s W) : I s (W.alloc o) := h.new s W _ hs ((Below.refl _ _).alloc (Nat.le_refl _) o)
/-- what a body keeps: the books of loops that began behind B -/
structure KeepBook (B : Nat) (W W' : World) : Prop where
  size : W.heap.size ≤ W'.heap.size
  same : ∀ (k : Nat) (o : Obj), B ≤ k → W.heap[k]? = some o → isBook o = true → W'.heap[k]? = some o
theorem KeepBook.of_below {B : Nat} {W W' : World} (h : Below W.heap.size W W') : KeepBook B W W' := ⟨h.size, fun k o _ hk _ => (h.block k (Array.getElem?_eq_some_iff.1 hk).1).trans hk⟩
theorem KeepBook.trans {B : Nat} {X Y Z : World} (h : KeepBook B X Y) (k : KeepBook B Y Z) : KeepBook B X Z := ⟨Nat.le_trans h.size k.size, fun i o hB hi ho => k.same i o hB (h.same i o hB hi ho) ho⟩
/-- how a body may be left -/
def bookPost {α : Type} (B : Nat) (Kp : World → World → Prop) (I : List α → World → Prop) (Ix : Code → List α → World → Prop) (xs : List α) (W : World) : Exit → Act → World → Prop
  | .normal, _, W' => KeepBook B W W' ∧ Kp W W' ∧ I xs W'
  | .ret, _, W' => KeepBook B W W' ∧ Ix .ret xs W'
  | .exit id, _, W' => KeepBook B W W' ∧ Ix (.exit id) xs W'
  | .goto t, _, W' => KeepBook B W W' ∧ Ix (.goto t) xs W'
  | .panic _, _, _ => False
  | .outgrown, _, _ => False
/-- an iterator's word: at each yield the part x (encs x its values) is such that G pre x holds there -/
def SeqTells {α : Type} (F : Fence) (n : Nat) (P : Program) (g : Nat) (lb : Array Value) (encs : α → Array Value) (Kp : World → World → Prop) (G : List α → α → World → Prop) (S Sp : List α → Prop) (w : World) : Prop :=
  ∀ (l : Nat) (J Jx : List α → World → Prop) (W : World), Below w.heap.size w W → (∀ s A B, J s A → Below A.heap.size A B → J s B) → (∀ s A B, Jx s A → Below A.heap.size A B → Jx s B) →
    (∀ pre x W1, J pre W1 → G pre x W1 → YieldAt F (n - 1) P l (encs x) W1 fun e W' =>
      (e = .returned (.bool true) ∧ J (pre ++ [x]) W' ∧ Kp W1 W') ∨ (e = .returned (.bool false) ∧ Jx (pre ++ [x]) W')) →
    J [] W →
    CallsIn F n P g (#[.func (.yield l) #[] #[]] ++ lb) W fun e W' => (∃ v, e = .returned v) ∧ ((∃ xs, S xs ∧ J xs W') ∨ (∃ pre, Sp pre ∧ Jx pre W'))

/-- the two blocks of a loop's own: its record at l, in state st with the jump j, and the block at d for deferred calls -/
def Book (mk : LoopState → Option Code → Loop) (d : Nat) (st : LoopState) (j : Option Code) (W : World) : Prop :=
  W.heap[d + 1]? = some (.loop (mk st j)) ∧ W.heap[d]? = some (.deferred (some []))
theorem Book.lt {mk : LoopState → Option Code → Loop} {d : Nat} {st : LoopState} {j : Option Code} {W : World} (h : Book mk d st j W) : d + 1 < W.heap.size := (Array.getElem?_eq_some_iff.1 h.1).1
theorem Book.turn {mk : LoopState → Option Code → Loop} {d : Nat} {st : LoopState} {j : Option Code} {W : World} (h : Book mk d st j W) (st' : LoopState) (j' : Option Code) : Book mk d st' j' (W.putObj (d + 1) (.loop (mk st' j'))) :=
  ⟨World.putObj_heap_same h.lt, (World.putObj_heap_other (by omega)).trans h.2⟩
theorem Book.from {mk : LoopState → Option Code → Loop} {d B : Nat} {st : LoopState} {j : Option Code} {W W' : World} (h : Book mk d st j W) (hB : B ≤ d) (k : KeepBook B W W') : Book mk d st j W' :=
  ⟨k.same _ _ (by omega) h.1 rfl, k.same _ _ hB h.2 rfl⟩
theorem Book.below {mk : LoopState → Option Code → Loop} {d : Nat} {st : LoopState} {j : Option Code} {A B : World} (h : Book mk d st j A) (hb : Below A.heap.size A B) : Book mk d st j B :=
  ⟨(hb.block _ (Array.getElem?_eq_some_iff.1 h.1).1).trans h.1, (hb.block _ (Array.getElem?_eq_some_iff.1 h.2).1).trans h.2⟩

variable {F : Fence} {n : Nat} {P : Program}
set_option maxHeartbeats 1000000 in
theorem wpIn_rangeFunc_tells {α : Type} {g : Operand} {ps : Array Tmp} {assign body : Code} {Q : Exit → Act → World → Prop} {a : Act} {w : World}
    (hro : F.round = none) (h1 : 1 ≤ n) {gf : Nat} {lb : Array Value} (hg : a.eval g = .func (.func gf) #[] lb) (hFg : F.fn gf) (eg : ∀ args w, (callFunc gf args).run P w = .ok (.enter gf args) w)
    {encs : α → Array Value} {Kp : World → World → Prop} {G : List α → α → World → Prop} {S Sp : List α → Prop} {w0 : World} (hseq : SeqTells F (n - 1) P gf lb encs Kp G S Sp w0)
    (hKt : ∀ {A B C : World}, Kp A B → Kp B C → Kp A C) (hKb : ∀ (W : World) (l : Nat) (o o' : Obj), w.heap.size ≤ l → W.heap[l]? = some o → isBook o = true → Kp W (W.putObj l o')) (hb0 : Below w0.heap.size w0 w) (hps : ∀ x, (encs x).size = ps.size)
    (hGb : ∀ pre x (W : World) (l : Nat) (o o' : Obj), G pre x W → w.heap.size ≤ l → W.heap[l]? = some o → isBook o = true → G pre x (W.putObj l o'))
    (I : List α → World → Prop) (Ix : Code → List α → World → Prop) (hI : Stays w.heap.size I) (hIx : ∀ c, Stays w.heap.size (Ix c)) (h0 : I [] w) (a₁ : α → Act)
    (hassign : ∀ (l : Nat) (x : α) (W : World) (K : Act → World → Prop), K (a₁ x) W →
      assign.wpIn (F.inRound l) (n - 1 - 1) P (Exit.then K (fun _ _ _ => False)) { tmps := (ps.zip (encs x)).foldl (fun t (p, v) => t.setIfInBounds p v) a.tmps, defers := [] } W)
    (hbody : ∀ (l : Nat) (pre : List α) (x : α) (W : World), w.heap.size ≤ l → (∃ o : Obj, W.heap[l]? = some o ∧ isBook o = true) → I pre W → G pre x W → body.wpIn (F.inRound l) (n - 1 - 1) P (bookPost w.heap.size Kp I Ix (pre ++ [x]) W) (a₁ x) W)
    (hdone : ∀ (D : Nat) (xs : List α) (W : World), w.heap.size ≤ D → S xs → I xs W → W.heap[D]? = some (.deferred (some [])) → Q .normal { a with defers := { target := .collected D, args := #[] } :: a.defers } W)
    (hstop : ∀ (D : Nat) (c : Code) (pre : List α) (W : World), w.heap.size ≤ D → Sp pre → Ix c pre W → W.heap[D]? = some (.deferred (some [])) → c.wpIn F n P Q { a with defers := { target := .collected D, args := #[] } :: a.defers } W) :
    (Code.rangeFunc g ps assign body).wpIn F n P Q a w := by
  refine wpIn_rangeFunc fun fn hfn => ?_
  rw [hro]
  let mk : LoopState → Option Code → Loop := fun st j => { state := st, pending := j, fn, tmps := a.tmps, params := ps, assign, body, defers := w.heap.size }
  obtain ⟨V, hV⟩ : ∃ V, (w.alloc (.deferred (some []))).alloc (.loop (mk .ready none)) = V := ⟨_, rfl⟩
  have hVs : V.heap.size = w.heap.size + 2 := by rw [← hV]; simp
  have hbook : Book mk w.heap.size .ready none V := by
    rw [← hV]
    refine ⟨?_, (Below.heap_alloc _ _ _ (by simp)).trans (World.alloc_heap_new w _)⟩
    have := World.alloc_heap_new (w.alloc (.deferred (some []))) (.loop (mk .ready none))
    rwa [World.size_alloc] at this
  have hIV : I [] V := by rw [← hV]; exact hI.alloc _ (hI.alloc _ h0)
  have hbV : Below w0.heap.size w0 V := by
    rw [← hV]; exact (hb0.alloc hb0.size _).alloc (by have := hb0.size; simp only [World.size_alloc]; omega) _
  refine ⟨w.heap.size + 1, [{ target := .collected w.heap.size, args := #[] }], V, { target := .fn (.func gf) lb, args := #[.func (.yield (w.heap.size + 1)) #[] #[]] }, V, gf, #[.func (.yield (w.heap.size + 1)) #[] #[]] ++ lb, V, ?_, ?_, ?_, ?_, fun _ => h1, ?_⟩
  · rw [← hV]; exact run_enterLoop_outer _ _ _ _ _
  · simp only [resolve, hg]; simp [go_sem]
  · intro f' hf'; simp [Target.leads] at hf'; subst hf'; exact hFg
  · simp [invoke, go_sem, eg]
  have hJ : ∀ s A B, (I s A ∧ Book mk w.heap.size .ready none A) → Below A.heap.size A B → (I s B ∧ Book mk w.heap.size .ready none B) := fun s A B h hb => ⟨hI.new s A B h.1 hb, h.2.below hb⟩
  have hJx : ∀ s A B, (∃ c, Ix c s A ∧ Book mk w.heap.size .done (some c) A) → Below A.heap.size A B → (∃ c, Ix c s B ∧ Book mk w.heap.size .done (some c) B) := fun s A B h hb => by
    obtain ⟨c, hc, hk⟩ := h
    exact ⟨c, (hIx c).new s A B hc hb, hk.below hb⟩
  refine (hseq (w.heap.size + 1) (fun pre W => I pre W ∧ Book mk w.heap.size .ready none W) (fun pre W => ∃ c, Ix c pre W ∧ Book mk w.heap.size .done (some c) W) V hbV hJ hJx ?_ ⟨hIV, hbook⟩).mono ?_
  · rintro pre x W ⟨hi, hb⟩ hG
    have hl := hb.1
    have hy := run_yield (P := P) (args := encs x) hl (hps x)
    refine ⟨fn, _, assign, body, hy, roundIn_of_wpIn hfn (hassign _ x W _ ⟨_, run_beginRound hl rfl, ?_⟩)⟩
    obtain ⟨W2, hW2⟩ : ∃ W2, W.putObj (w.heap.size + 1) (.loop (mk .busy none)) = W2 := ⟨_, rfl⟩
    have hb2 : Book mk w.heap.size .busy none W2 := by rw [← hW2]; exact hb.turn _ _
    have hk2 : Kp W W2 := by rw [← hW2]; exact hKb _ _ _ _ (by omega) hl rfl
    have hi2 : I pre W2 := by rw [← hW2]; exact hI.put _ _ _ _ _ hi (by omega) hl rfl
    have hG2 : G pre x W2 := by rw [← hW2]; exact hGb _ _ _ _ _ _ hG (by omega) hl rfl
    show Code.wpIn _ _ _ _ _ _ (W.putObj (w.heap.size + 1) (.loop (mk .busy none)))
    rw [hW2]
    have fin : ∀ (j : Option Code) (W3 : World), KeepBook w.heap.size W2 W3 →
        (Instr.endRound (w.heap.size + 1) j).run P W3 = .ok (.bool j.isNone) (W3.putObj (w.heap.size + 1) (.loop (mk (if j.isNone then .ready else .done) j))) ∧
        W3.heap[w.heap.size + 1]? = some (.loop (mk .busy none)) ∧ Book mk w.heap.size (if j.isNone then .ready else .done) j (W3.putObj (w.heap.size + 1) (.loop (mk (if j.isNone then .ready else .done) j))) := fun j W3 hk3 => by
      have hb3 := hb2.from (Nat.le_refl _) hk3
      exact ⟨run_endRound (P := P) j hb3.1, hb3.1, hb3.turn _ _⟩
    refine wpIn_mono (hbody _ pre x W2 (by omega) ⟨_, hb2.1, rfl⟩ hi2 hG2) ?_
    rintro e a3 W3 hp
    cases e with
    | normal =>
      obtain ⟨hk3, hkp3, hi3⟩ := hp
      obtain ⟨hr, hl3, hb4⟩ := fin none W3 hk3
      exact ⟨_, _, hr, .inl ⟨rfl, ⟨hI.put _ _ _ _ _ hi3 (by omega) hl3 rfl, hb4⟩, hKt (hKt hk2 hkp3) (hKb _ _ _ _ (by omega) hl3 rfl)⟩⟩
    | ret =>
      obtain ⟨hr, hl3, hb4⟩ := fin (some .ret) W3 hp.1
      exact ⟨_, _, hr, .inr ⟨rfl, .ret, (hIx _).put _ _ _ _ _ hp.2 (by omega) hl3 rfl, hb4⟩⟩
    | exit id =>
      obtain ⟨hr, hl3, hb4⟩ := fin (some (.exit id)) W3 hp.1
      exact ⟨_, _, hr, .inr ⟨rfl, .exit id, (hIx _).put _ _ _ _ _ hp.2 (by omega) hl3 rfl, hb4⟩⟩
    | goto t =>
      obtain ⟨hr, hl3, hb4⟩ := fin (some (.goto t)) W3 hp.1
      exact ⟨_, _, hr, .inr ⟨rfl, .goto t, (hIx _).put _ _ _ _ _ hp.2 (by omega) hl3 rfl, hb4⟩⟩
    | panic ch => exact hp.elim
    | outgrown => exact hp.elim
  · rintro e W2 ⟨⟨v, rfl⟩, (⟨xs, hS, hi, hb⟩ | ⟨pre, hSp, c, hi, hb⟩)⟩
    · exact ⟨none, _, run_endLoop (P := P) hb.1 (by simp [mk]), hdone _ xs _ (Nat.le_refl _) hS (hI.put _ _ _ _ _ hi (by omega) hb.1 rfl) ((World.putObj_heap_other (by omega)).trans hb.2)⟩
    · exact ⟨some c, _, run_endLoop (P := P) hb.1 (by simp [mk]), hstop _ c pre _ (Nat.le_refl _) hSp ((hIx c).put _ _ _ _ _ hi (by omega) hb.1 rfl) ((World.putObj_heap_other (by omega)).trans hb.2)⟩
end Go.Proofs.Ytjpikgfplfgcfaa
