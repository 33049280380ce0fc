/- due.Add, Take, Len by the rows of the law DueOnce. -/
import Derived.Test.YtedkhpnlhkjjgaaG31
import Derived.Test.YtedkhpnlhkjjgaaG27
namespace Go.Proofs.Ytedkhpnlhkjjgaa
open Go.RowKit Go.Maps Go.Sort

/-- a store that holds the rows from lo on, of the first i -/
structure DuS (w W : World) (b : Nat) (bl : Nat → Nat) (i lo c : Nat) : Prop where
  s : ∃ F q qs, SNew w W b F (dL bl i lo) q qs ∧ q ≤ c
theorem DuS.below {w W W' : World} {b : Nat} {bl : Nat → Nat} {i lo c : Nat} (h : DuS w W b bl i lo c) (hb : Below W.heap.size W W') : DuS w W' b bl i lo c := by
  obtain ⟨F, q, qs, hs, hq⟩ := h.s
  exact ⟨F, q, qs, hs.below hb, hq⟩
theorem DuS.l {w W : World} {b : Nat} {bl : Nat → Nat} {i lo c : Nat} (h : DuS w W b bl i lo c) : Below w.heap.size w W := by
  obtain ⟨F, q, qs, hs, hq⟩ := h.s
  exact hs.l
theorem DuS.of_live {w W W' : World} {b : Nat} {F : List Nat} {bl : Nat → Nat} {i lo q c : Nat} (h : LiveTo w W W' b F (dL bl i lo) q) (hq : q ≤ c) : DuS w W' b bl i lo c := by
  obtain ⟨F', q', qs', hs, hq', _⟩ := h
  exact ⟨F', q', qs', hs, by omega⟩
theorem dL_len {bl : Nat → Nat} {i lo : Nat} (hi : i ≤ 80) (hb : ∀ t, bl t < 256) (hlo : lo ≤ 256) : (dL bl i lo).length ≤ 81 := by
  have h := dR_len bl hb i
  rw [dR_split bl i (Nat.zero_le lo) hlo, List.length_append] at h
  unfold dL ocnt
  rw [List.length_append, List.length_map]
  split <;> simp <;> omega
theorem dL_keys {bl : Nat → Nat} {i lo : Nat} : ∀ p ∈ dL bl i lo, p.1.size ≤ maxLen := fun p hp => by
  unfold dL at hp
  rcases List.mem_append.1 hp with h | h
  · obtain ⟨q, _, rfl⟩ := List.mem_map.1 h
    show (kr q.1 q.2.1).size ≤ maxLen
    unfold kr
    have := keyStr_size 26 (two2 (q.1 : Int) (q.2.1 : Int)) 2
    unfold maxLen; omega
  · rw [ocnt_key h]
    have : kC.size = 1 := by decide +kernel
    rw [this]; decide
theorem duo_nxt {bl : Nat → Nat} {i v : Nat} : nxt (ajj (dS bl i v)) (dS bl i v).length = ((dS bl i v).length : Nat) := by
  unfold nxt ajj
  split
  · rename_i h; rw [h]; rfl
  · rename_i h
    rw [agetD (by omega), dS_get (by omega)]
    show (((dS bl i v).length - 1 : Nat) : Int) + 1 = _
    omega
theorem duo_add {w W : World} {b : Nat} {bl : Nat → Nat} {i c : Nat} (h : DuS w W b bl i 0 c) (hi : i + 1 ≤ 80) (hb : ∀ t, bl t < 256) (hc : c < 100000) (A : Option Addr) (cp : Nat) (hl : Il W A 2 (two2 (bl i : Int) (i : Int))) :
    Calls Try.prog 29 #[.pointer (some ⟨b, 0, none⟩), .int .i64 (bl i : Nat), .slice A 2 cp] W fun e W' => e = .returned (.int .i64 0) ∧ DuS w W' b bl (i + 1) 0 (c + 2) := by
  obtain ⟨F, q, qs, hs, hq⟩ := h.s
  have hbi := hb i
  have hsl : (dS bl i (bl i)).length ≤ i := by rw [dS_len]; exact dcol_len _ _ _
  have hU := dRows (dS_sml (bl := bl) (i := i) hbi (by omega))
  rw [← dL_blk (by omega) hbi] at hU
  have hL := dL_len (bl := bl) (i := i) (lo := 0) (by omega) hb (by omega)
  have e1 := dL_add1 hi hb
  have e2 := dL_add hi hb
  have hL1 : (setL (dL bl i 0) (kr (bl i) (dS bl i (bl i)).length) (rowV (two2 (bl i : Int) (i : Int)) 2)).length < 128 := by
    have := setL_len (dL bl i 0) (kr (bl i) (dS bl i (bl i)).length) (rowV (two2 (bl i : Int) (i : Int)) 2)
    omega
  have hkr : (kr (bl i) (dS bl i (bl i)).length).size ≤ maxLen := by
    unfold kr
    have := keyStr_size 26 (two2 (bl i : Int) ((dS bl i (bl i)).length : Int)) 2
    unfold maxLen; omega
  have hkr0 : kr (bl i) (dS bl i (bl i)).length ≠ ⟨#[]⟩ := fun e => by
    have := kr_list (bl i) (dS bl i (bl i)).length hbi (by omega)
    rw [e] at this
    cases this
  have := dueadd_any hs (bl i : Nat) (kB (bl i)) (kr (bl i) (dS bl i (bl i)).length) kC (by omega) (by omega) rfl (dS bl i (bl i)).length (akey (dS bl i (bl i))) (abj (dS bl i (bl i))) (ajj (dS bl i (bl i))) (fun _ => 2) (af (dS bl i (bl i))) hU
    (fun k hk => by
      have := dS_sml (bl := bl) (i := i) hbi (by omega) _ (List.getElem_mem hk)
      unfold ajj; rw [agetD hk]; omega) ((dS bl i (bl i)).length : Nat) duo_nxt rfl rfl A 2 cp (two2 (bl i : Int) (i : Int)) hl (by omega) (by omega)
    (fun t ht => by
      rcases (by omega : t = 0 ∨ t = 1) with rfl | rfl
      · show (0 : Int) ≤ (bl i : Nat); omega
      · show (0 : Int) ≤ (i : Nat); omega) i (by rw [e1]; exact ocnt_int (dR_sml (Nat.le_refl _) (by omega)) i) (by omega) hkr hkr0 (by rw [show kC.size = 1 by decide +kernel]; decide) (by decide +kernel) dL_keys (by omega) hL1 (by omega)
  rw [show ((i : Nat) : Int) + 1 = ((i + 1 : Nat) : Int) by omega, e2] at this
  refine this.mono ?_
  rintro e W' ⟨he, hL⟩
  exact ⟨he, DuS.of_live hL (by omega)⟩
theorem duo_take {w W : World} {b : Nat} {bl : Nat → Nat} {i lo hi c : Nat} (h : DuS w W b bl i lo c) (hi2 : i ≤ 80) (hb : ∀ t, bl t < 256) (hc : c < 100000) (now : Nat) (h1 : lo ≤ hi) (h2 : hi = min (now + 1) 256) :
    Calls Try.prog 30 #[.pointer (some ⟨b, 0, none⟩), .int .i64 (now : Nat)] W fun e W' => ∃ (v : Value) (xs : List DRow), e = .returned v ∧ xs.length = (dR bl i lo hi).length ∧ W'.ownsRow W.heap.size 30 1 v (dR bl i lo hi).length (xs.map DRow.val) ∧ (∀ k (h : k < xs.length), DHas (akey (dR bl i lo 256)) (fun _ => 2) (af (dR bl i lo 256)) W.heap.size k xs[k] W') ∧ DuS w W' b bl i hi (c + 100) := by
  obtain ⟨F, q, qs, hs, hq⟩ := h.s
  have hlo : lo ≤ 256 := by omega
  have hU := dRows (dR_sml (bl := bl) (i := i) (lo := lo) (Nat.le_refl 256) hi2)
  rw [← dL_all hi2] at hU
  have hL := dL_len (bl := bl) (i := i) (lo := lo) hi2 hb hlo
  have hn : (dR bl i lo 256).length ≤ 80 := by
    have h := dR_len bl hb i
    rw [dR_split bl i (Nat.zero_le lo) hlo, List.length_append] at h
    omega
  have := duetake_live hs (now : Nat) kT kC rfl rfl (dR bl i lo 256).length (akey (dR bl i lo 256)) (abj (dR bl i lo 256)) (ajj (dR bl i lo 256)) (fun _ => 2) (af (dR bl i lo 256)) hU dL_keys (by omega) (by omega) (dR bl i lo 256).length (by omega)
    (fun M hM => by
      unfold dL
      rw [adels (dR_sml (Nat.le_refl 256) hi2) (dR_pw2 bl i hlo) _ M hM]
      exact ocnt_int (fun p hp => dR_sml (Nat.le_refl 256) hi2 p (List.mem_of_mem_drop hp)) _)
  refine this.mono ?_
  rintro e W' ⟨xs, v, he, hN, hle, hend, hown, hrows, hlive⟩
  have hM := take_count (M := xs.length) h1 h2 hN hle hend
  rw [take_left hi2 h1 (by omega) hM] at hlive
  refine ⟨v, xs, he, hM, by rw [← hM]; exact hown, hrows, DuS.of_live hlive (by omega)⟩
theorem duo_len {w W : World} {b : Nat} {bl : Nat → Nat} {i lo c : Nat} (h : DuS w W b bl i lo c) (hi2 : i ≤ 80) (hb : ∀ t, bl t < 256) (hlo : lo ≤ 256) :
    Calls Try.prog 31 #[.pointer (some ⟨b, 0, none⟩)] W fun e W' => e = .returned (.int .i64 ((dR bl i lo 256).length : Nat)) ∧ Below W.heap.size W W' := by
  obtain ⟨F, q, qs, hs, hq⟩ := h.s
  have hn : (dR bl i lo 256).length ≤ 80 := by
    have h := dR_len bl hb i
    rw [dR_split bl i (Nat.zero_le lo) hlo, List.length_append] at h
    omega
  exact duelen_at hs kC rfl (dR bl i lo 256).length (by omega) (ocnt_int (dR_sml (Nat.le_refl _) hi2) _)
/-- how many of the first i come ahead of lo -/
def dW (bl : Nat → Nat) (lo : Nat) : Nat → Nat
  | 0 => 0
  | i + 1 => dW bl lo i + if bl i < lo then 1 else 0
theorem dW_le (bl : Nat → Nat) (lo : Nat) : ∀ i, dW bl lo i ≤ i
  | 0 => Nat.le_refl _
  | i + 1 => by have := dW_le bl lo i; unfold dW; split <;> omega
theorem dW_is (bl : Nat → Nat) (lo : Nat) : ∀ i, (dR bl i 0 lo).length = dW bl lo i
  | 0 => by
    have : ∀ p, p ∉ dR bl 0 0 lo := fun p hp => by have := (dR_mem hp).2.1; omega
    rw [List.eq_nil_iff_forall_not_mem.2 this]; rfl
  | i + 1 => by
    have ih := dW_is bl lo i
    unfold dW
    split
    · rename_i h
      rw [dR_three bl i (Nat.zero_le _) h] at ih
      rw [dR_add bl i (Nat.zero_le _) h]
      simp only [List.length_append, List.length_cons, List.length_nil] at ih ⊢
      omega
    · rename_i h
      rw [dR_same (.inr (by omega))]
      omega
theorem dW_rest (bl : Nat → Nat) (hb : ∀ t, bl t < 256) (i lo : Nat) (hlo : lo ≤ 256) : (dR bl i lo 256).length = i - dW bl lo i := by
  have h := dR_len bl hb i
  rw [dR_split bl i (Nat.zero_le lo) hlo, List.length_append, dW_is] at h
  omega
/-- a taken row, and the one ahead of it -/
theorem dR_row {bl : Nat → Nat} {i lo hi m : Nat} (h1 : lo ≤ hi) (h2 : hi ≤ 256) (hm : m < (dR bl i lo hi).length) : ∃ v t : Nat, (dR bl i lo 256).getD m (0, 0, 0) = (v, ((dR bl i lo 256).getD m (0, 0, 0)).2.1, t) ∧ v < hi ∧ t < i ∧ bl t = v ∧
    (0 < m → ((dR bl i lo 256).getD (m - 1) (0, 0, 0)).1 < v ∨ ((dR bl i lo 256).getD (m - 1) (0, 0, 0)).1 = v ∧ ((dR bl i lo 256).getD (m - 1) (0, 0, 0)).2.2 < t) := by
  have hsp := dR_split bl i h1 h2
  have hl : (dR bl i lo 256).length = (dR bl i lo hi).length + (dR bl i hi 256).length := by rw [hsp, List.length_append]
  have e3 : (dR bl i lo 256)[m]'(by omega) = (dR bl i lo hi)[m] := by
    simp only [hsp]
    exact List.getElem_append_left hm
  have hmem := dR_mem (List.getElem_mem hm)
  rw [agetD (by omega), e3]
  refine ⟨_, _, rfl, hmem.1.2, hmem.2.2.1, hmem.2.2.2, fun h0 => ?_⟩
  have hp := (List.pairwise_iff_getElem.1 (dR_pw2 bl i (by omega : lo ≤ 256))) (m - 1) m (by omega) (by omega) (by omega)
  rw [agetD (by omega)]
  rw [e3] at hp
  rcases hp with h | ⟨h3, _, h4⟩
  · exact .inl h
  · exact .inr ⟨h3, h4⟩
end Go.Proofs.Ytedkhpnlhkjjgaa

namespace Go.Proofs.Ytedkhpnlhkjjgaa
open Go.RowKit Go.Maps Go.Sort Go.Shelf
attribute [local go_sem] Oper.semAt_some
attribute [local go_sem] run_store_fn

/-- First's boxes -/
structure FsI (W : World) (x : Int) (y : Bool) (V : World) : Prop where
  l : Below W.heap.size W V
  a : V.heap[W.heap.size]? = some (Obj.cells #[.int .i64 x] 3 (0, 0))
  c : V.heap[W.heap.size + 1]? = some (Obj.cells #[.bool y] 4 (0, 0))
  f : V.heap[W.heap.size + 1 + 1]? = some (Obj.cells #[.func (.func 79) #[] #[]] 127 (0, 0))
theorem FsI.keep {W : World} {x : Int} {y : Bool} {V V' : World} (h : FsI W x y V) (hb : Below V.heap.size V V') : FsI W x y V' :=
  ⟨h.l.trans (hb.mono h.l.size), (hb.block _ (hp_lt h.a)).trans h.a, (hb.block _ (hp_lt h.c)).trans h.c, (hb.block _ (hp_lt h.f)).trans h.f⟩
theorem FsI.put {W : World} {x : Int} {y : Bool} {V : World} (h : FsI W x y V) {l : Nat} {o : Obj} (o' : Obj) (hl : V.heap[l]? = some o) (ho : isBook o = true) (hB : W.heap.size ≤ l) : FsI W x y (V.putObj l o') := by
  have hk := KeepT.putObj (T := 3) V l o o' hl (isBook_cells ho)
  refine ⟨h.l.trans (Touch.below (F := [l]) (Touch.grown (grownBy_putObj' V l o') (fun k e => by cases e; simp)) (fun k hk => ?_) h.l.size), (KeepT.putObj V l o o' hl (isBook_cells ho)).2 _ _ _ h.a, (KeepT.putObj V l o o' hl (isBook_cells ho)).2 _ _ _ h.c, (KeepT.putObj V l o o' hl (isBook_cells ho)).2 _ _ _ h.f⟩
  obtain rfl : k = l := by simpa using hk
  exact hB
theorem FsI.set {W : World} {x : Int} {y : Bool} {V : World} (h : FsI W x y V) (x' : Int) (y' : Bool) : FsI W x' y' ((V.setCell ⟨W.heap.size, 0, none⟩ (.int .i64 x')).setCell ⟨W.heap.size + 1, 0, none⟩ (.bool y')) ∧ ∀ B, KeepBook B V ((V.setCell ⟨W.heap.size, 0, none⟩ (.int .i64 x')).setCell ⟨W.heap.size + 1, 0, none⟩ (.bool y')) := by
  refine ⟨⟨(h.l.setCell (Nat.le_refl _) _).setCell (Nat.le_succ _) _, ?_, ?_, ?_⟩, fun B => ⟨by simp, fun k o _ hk ho => ?_⟩⟩
  · rw [Below.heap_setCell _ _ _ _ (by simp)]
    exact heap_setCell_row h.a (.int .i64 x')
  · refine heap_setCell_row ?_ (.bool y') (cur := #[.bool y])
    rw [Below.heap_setCell _ _ _ _ (by simp)]
    exact h.c
  · rw [Below.heap_setCell _ _ _ _ (by show W.heap.size + 1 + 1 ≠ W.heap.size + 1; omega), Below.heap_setCell _ _ _ _ (by show W.heap.size + 1 + 1 ≠ W.heap.size; omega)]
    exact h.f
  · have n0 : k ≠ W.heap.size := fun e => by subst e; rw [h.a] at hk; cases hk; cases ho
    have n1 : k ≠ W.heap.size + 1 := fun e => by subst e; rw [h.c] at hk; cases hk; cases ho
    rw [Below.heap_setCell _ _ _ _ n1, Below.heap_setCell _ _ _ _ n0]
    exact hk
set_option maxRecDepth 100000 in
set_option maxHeartbeats 4000000 in
theorem duefirst_live {w W : World} {b : Nat} {F : List Nat} {L : SL} {q : Nat} {qs : List Value} (h : SNew w W b F L q qs) (K : ByteArray) (hK : keyStr 26 (fun _ => 0) 0 = K)
    (N : Nat) (key : Nat → ByteArray) (bj jj : Nat → Int) (n : Nat → Nat) (f : Nat → Nat → Int) (hU : DueRows (under L K) N key bj jj n f) (hks : ∀ p ∈ L, p.1.size ≤ maxLen) (hL : L.length < 128) (hN : 1 ≤ N) :
    Calls Try.prog 78 #[.pointer (some ⟨b, 0, none⟩)] W fun e W' => e = .returned (.tuple #[.int .i64 (bj 0), .bool true]) ∧ Below W.heap.size W W' := by
  refine (callsIn_wide (n := 3)).1 ?_
  have h1 : 1 ≤ 3 := by omega
  have HA := Lib.hid (fun w => rows_walk (some ⟨b, 0, none⟩) K w)
  have HTb := Lib.hid (fun w => tbl_is 26 K hK w)
  have HUn := Lib.hid (fun (W1 : World) (hb : Below W.heap.size W W1) => under_live b F L q qs W1 (h.below hb).s K hks hL)
  have hb0 := (((Below.refl W.heap.size W).alloc (Nat.le_refl _) (.cells #[.int .i64 0] 3)).alloc (by simp) (.cells #[.bool false] 4)).alloc (by simp only [World.size_alloc]; omega) (.cells #[.func (.func 79) #[] #[]] 127)
  have hI0 : FsI W 0 false (((W.alloc (.cells #[.int .i64 0] 3)).alloc (.cells #[.bool false] 4)).alloc (.cells #[.func (.func 79) #[] #[]] 127)) := by
    refine ⟨hb0, (heap_alloc_old _ _ (by simp only [World.size_alloc]; omega)).trans ((heap_alloc_old _ _ (by simp only [World.size_alloc]; omega)).trans (heap_alloc_new _ _)), ?_, ?_⟩
    · have h := heap_alloc_new (W.alloc (.cells #[.int .i64 0] 3)) (.cells #[.bool false] 4)
      rw [World.size_alloc] at h
      exact (heap_alloc_old _ _ (by simp only [World.size_alloc]; omega)).trans h
    · have h := heap_alloc_new ((W.alloc (.cells #[.int .i64 0] 3)).alloc (.cells #[.bool false] 4)) (.cells #[.func (.func 79) #[] #[]] 127)
      rw [World.size_alloc, World.size_alloc] at h
      exact h
  have HI0 := Lib.hid hI0
  have HP := Lib.hid (And.intro hU (And.intro hL hN))
  clear hU hK hks hL hN hb0 hI0 h
  refine callsIn_of_wp_marks Try.func78 rfl trivial ?_ rfl
  simp only [Try.ntmps78, List.size_toArray, List.length_cons, List.length_nil, Nat.reduceAdd, Nat.reduceSub, Array.replicate_succ, Array.replicate_zero, List.push_toArray, List.append_toArray, List.nil_append, List.cons_append]
  gi_wp2_with (refine ⟨trivial, ?_⟩; first | (gi_at_call 80; refine (callsIn_wide.2 (HA.out _)).mono ?_; rintro e w2 ⟨rfl, hb, hc1, hc2, hz⟩) | (gi_at_call 81; refine (callsIn_wide.2 (HTb.out _)).mono ?_; rintro e w1 ⟨rfl, hb1⟩))
  have hI2 := (HI0.out.keep hb1).keep hb
  have HI2 := Lib.hid hI2
  obtain ⟨hU, hL, hN⟩ := HP.out
  refine wpIn_rangeFunc_tells (α := DRow) (F := Fence.wide) (encs := DRow.encs) (Kp := KeepT 184) (G := DTold N key n f w2.heap.size) (w0 := w2) rfl h1 rfl trivial (enters_of Try.func123 (by kernel_rfl) rfl)
      (duer_tells 1 (some ⟨b, 0, none⟩) K w1.heap.size (w1.heap.size + 1) N (under L K) key bj jj n f w2 hc1 hc2 hU.at_ hU.len (by rw [← hU.len]; exact Nat.le_trans (under_len L K) (by omega)) hU.hk hU.hn hU.hf (fun W1 hb => HUn.out W1 (hI2.l.trans (hb.mono hI2.l.size))))
      (fun h k => h.trans k) (fun V l o o' _ hl ho => KeepT.putObj V l o o' hl (isBook_cells ho)) (Below.refl _ _) (fun _ => rfl) (fun pre x V l o o' hG _ hl ho => hG.putObj o' hl (isBook_cells ho))
      (fun xs V => xs = [] ∧ FsI W 0 false V) (fun c xs V => c = Code.ret ∧ FsI W (bj 0) true V) ⟨fun xs V V' h hb => ⟨h.1, h.2.keep hb⟩, fun xs V l o o' h hl hlo ho => ⟨h.1, h.2.put o' hlo ho (Nat.le_trans hI2.l.size hl)⟩⟩
      (fun c => ⟨fun xs V V' h hb => ⟨h.1, h.2.keep hb⟩, fun xs V l o o' h hl hlo ho => ⟨h.1, h.2.put o' hlo ho (Nat.le_trans hI2.l.size hl)⟩⟩) ⟨rfl, hI2⟩ (fun x => { tmps := #[.pointer (some ⟨b, 0, none⟩), undef, .pointer (some ⟨W.heap.size, 0, none⟩), .pointer (some ⟨W.heap.size + 1, 0, none⟩), .pointer (some ⟨W.heap.size + 1 + 1, 0, none⟩), .string x.k, undef, undef, undef, .pointer (some ⟨b, 0, none⟩), .string K, .func (.func 123) #[] #[.pointer (some ⟨w1.heap.size, 0, none⟩), .pointer (some ⟨w1.heap.size + 1, 0, none⟩)], .string x.k, .slice (some ⟨x.g, 0, none⟩) x.n x.n, undef, undef, undef, undef, undef, undef, undef, undef, undef], defers := [] }) ?_ ?_ ?_ ?_
  · intro l x V Kc hKc
    unfold DRow.encs
    gi_wp2
    exact hKc
  · rintro l pre x V hl hbk ⟨rfl, hI⟩ ⟨hlt, hx⟩
    have HI := Lib.hid hI
    have hkj := hU.hk 0 hlt
    have e1 := hx.k
    simp only [List.length_nil] at e1
    obtain ⟨xk, exk⟩ : ∃ z, z = x.k := ⟨_, rfl⟩
    rw [← exk] at e1
    have HPl := Lib.hid (fun w => place_is _ _ xk (by rw [e1]; exact hkj.1) hkj.2.1 hkj.2.2 w)
    obtain ⟨bjj, ebj⟩ : ∃ z, z = bj 0 := ⟨_, rfl⟩
    rw [← ebj] at HPl ⊢
    have cB := (hp_cell (i := 0) hI.f).trans rfl
    have HH := Lib.hid hl
    clear hI hx hkj e1 hU hL hN hb1 hb hc1 hc2 hz ebj hI2 hlt hbk hl
    (try dsimp only)
    rw [← exk]
    clear exk
    gi_wp2_with (refine ⟨trivial, ?_⟩; gi_at_call 79; refine (CallsIn.inRound l (callsIn_wide.2 (HPl.out _))).mono ?_; rintro e w5 ⟨rfl, hb5⟩; have B5 := Lib.hid hb5; have I5 := HI.out.keep hb5; have ca := (hp_cell (i := 0) I5.a).trans rfl; have cc := (hp_cell (i := 0) I5.c).trans rfl; have fa := hp_free (i := 0) I5.a; have fc := hp_free (i := 0) I5.c; have HI5 := Lib.hid I5; clear hb5 I5)
    obtain ⟨a1, a2⟩ := HI5.out.set bjj true
    exact ⟨(KeepBook.of_below B5.out).trans (a2 _), rfl, a1⟩
  · rintro D xs V hD hS ⟨rfl, _⟩ hK
    exact absurd hS (by simp; omega)
  · rintro D c xs V hD _ ⟨rfl, hI⟩ hK
    have n0 : W.heap.size ≠ D := fun e => by have := hp_lt HI2.out.a; omega
    have n1 : W.heap.size + 1 ≠ D := fun e => by have := hp_lt HI2.out.c; omega
    have HIx := Lib.hid hI
    have HK := Lib.hid hK
    have HD := Lib.hid hD
    clear hI hK hD hU hL hN hb1 hb hc1 hc2 hz hI2
    gi_wp2
    refine ⟨by simp, .inl ⟨_, _, rfl, run_takeDeferred HK.out, ?_⟩⟩
    have hI := HIx.out.put (.deferred none) HK.out rfl (Nat.le_trans HI2.out.l.size HD.out)
    have e0 := (hp_cell (i := 0) hI.a).trans rfl
    have e1 := (hp_cell (i := 0) hI.c).trans rfl
    exact ⟨.tuple #[.int .i64 (bj 0), .bool true], by simp [results, Try.results78, go_sem, e0, e1], rfl, hI.l⟩
set_option maxRecDepth 100000 in
set_option maxHeartbeats 2000000 in
/-- rows that are alike, by the document's Rows -/
theorem rows12_true (A1 A2 : Option Addr) (N q1 q2 : Nat) (B1 B2 : Nat → Option Addr) (n c1 c2 : Nat → Nat) (f : Nat → Nat → Int) (w : World) (hN : N ≤ 1000000)
    (h1 : 0 < N → ∃ g o, A1 = some ⟨g, o, none⟩ ∧ g < w.heap.size ∧ ∀ i, i < N → w.cell? ⟨g, o + i, none⟩ = some (.slice (B1 i) (n i) (c1 i)))
    (h2 : 0 < N → ∃ g o, A2 = some ⟨g, o, none⟩ ∧ g < w.heap.size ∧ ∀ i, i < N → w.cell? ⟨g, o + i, none⟩ = some (.slice (B2 i) (n i) (c2 i)))
    (hn : ∀ i, i < N → n i ≤ 100) (ha : ∀ i, i < N → Il w (B1 i) (n i) (f i)) (hb : ∀ i, i < N → Il w (B2 i) (n i) (f i)) :
    Calls Try.prog 24 #[.slice A1 N q1, .slice A2 N q2] w fun e w' => e = .returned (.bool true) ∧ Below w.heap.size w w' := by
  have H1 := Lib.hid h1
  have H2 := Lib.hid h2
  have HN := Lib.hid hn
  have HA := Lib.hid ha
  have HB := Lib.hid hb
  have hNI : (N : Int) ≤ 1000000 := by omega
  clear h1 h2 hn ha hb
  go_enter Try.func24, Try.ntmps24
  go_wp2
  go_loopw [13] (fun i wr => ∃ j : Nat, j ≤ N ∧ i = .int .i64 (j : Nat) ∧ Below w.heap.size w wr) (fun i _ => N - (intOf i).toNat)
  case atStart => exact ⟨0, Nat.zero_le _, rfl, Below.refl _ _⟩
  case round =>
    obtain ⟨j, hj, rfl, hbl⟩ := hrel
    have HBl := Lib.hid hbl
    by_cases hlt : j < N
    · have p1 : (j : Int) < (N : Int) := by omega
      obtain ⟨g1, o1, rfl, hg1, hc1⟩ := H1.out (by omega)
      obtain ⟨g2, o2, rfl, hg2, hc2⟩ := H2.out (by omega)
      have d1 := (hbl.cell (p := ⟨g1, o1 + j, none⟩) hg1).trans (hc1 j hlt)
      have d2 := (hbl.cell (p := ⟨g2, o2 + j, none⟩) hg2).trans (hc2 j hlt)
      have HI := Lib.hid (fun (W : World) (hW : Below wr.heap.size wr W) => ints_walk (B1 j) (B2 j) (n j) (n j) (c1 j) (c2 j) (f j) (f j) W (((HA.out j hlt).below hbl).below hW) (((HB.out j hlt).below hbl).below hW) (HN.out j hlt) ⟨rfl, fun _ _ => rfl⟩)
      have F1 := fun (dq : Nat) (osq : Array Obj) => cell_regrown (w := wr) d1 dq osq
      have F2 := fun (dq : Nat) (osq : Array Obj) => cell_regrown (w := wr) d2 dq osq
      have HIr := Lib.hid (fun (dq : Nat) (osq : Array Obj) => HI.out (grow (redrawn wr dq) osq) (below_regrown wr dq osq))
      clear hbl hc1 hc2 d1 d2
      go_wp2
      refine wp_region_quiet_below (by kernel_rfl) (by kernel_rfl) ?_
      repeat (quiet_step ((go_at_call 23; with_reducible exact Calls.regrown_of (HIr.out _ _))))
      refine wpQuiet_nil ?_
      intro _ hw'
      obtain ⟨⟨dq, osq⟩, hw''⟩ := hw'
      subst hw''
      have HL := Lib.hid (HBl.out.trans ((below_regrown wr dq osq).mono HBl.out.size))
      clear F1 F2 HIr
      go_wp2
      exact ⟨⟨j + 1, by omega, by go_num, HL.out⟩, by simp [intOf]; omega⟩
    · obtain rfl : j = N := by omega
      have p1 : ¬ (j : Int) < (j : Int) := by omega
      clear hbl
      go_wp2
      go_ret
      exact ⟨rfl, HBl.out⟩
end Go.Proofs.Ytedkhpnlhkjjgaa

namespace Go.Proofs.Ytedkhpnlhkjjgaa
open Go.RowKit Go.Maps Go.Sort

def dT27 : ByteArray := ⟨#[27]⟩
def dK26 : ByteArray := ⟨#[26]⟩
def dK5 : ByteArray := ⟨#[26, 0, 0, 0, 0, 0, 0, 0, 5]⟩
def dK4 : ByteArray := ⟨#[26, 0, 0, 0, 0, 0, 0, 0, 4]⟩
def dK50 : ByteArray := ⟨#[26, 0, 0, 0, 0, 0, 0, 0, 5, 0, 0, 0, 0, 0, 0, 0, 0]⟩
def dK40 : ByteArray := ⟨#[26, 0, 0, 0, 0, 0, 0, 0, 4, 0, 0, 0, 0, 0, 0, 0, 0]⟩
theorem dT27e : keyStr 27 (fun _ => 0) 0 = dT27 := by decide +kernel
theorem dK26e : keyStr 26 (fun _ => 0) 0 = dK26 := by decide +kernel
theorem dK5e : keyStr 26 (fun _ => 5) 1 = dK5 := by decide +kernel
theorem dK4e : keyStr 26 (fun _ => 4) 1 = dK4 := by decide +kernel
theorem dK50e : keyStr 26 (two2 5 0) 2 = dK50 := by decide +kernel
theorem dK40e : keyStr 26 (two2 4 0) 2 = dK40 := by decide +kernel
def dR1 : ByteArray := rowV (fun _ => 1) 1
def dR2 : ByteArray := rowV (fun _ => 2) 1
def dL0 : SL := setL [] dK50 dR1
def dL1 : SL := setL dL0 dT27 (numStr (((0 : Nat) : Int) + 1))
def dL1b : SL := setL dL1 dK40 dR2
def dL2 : SL := setL dL1b dT27 (numStr (((1 : Nat) : Int) + 1))
def dkey (i : Nat) : ByteArray := if i = 0 then dK40 else dK50
def dbj (i : Nat) : Int := if i = 0 then 4 else 5
def df (i : Nat) : Nat → Int := if i = 0 then fun _ => 2 else fun _ => 1
def dL3 : SL := setL (sdel dL2 dK40) dT27 (numStr 1)
theorem dU2 : under dL2 dK26 = [(dK40, dR2), (dK50, dR1)] := by decide +kernel
theorem dU3 : under dL3 dK26 = [(dK50, dR1)] := by decide +kernel
theorem dRows2 : DueRows (under dL2 dK26) 2 dkey dbj (fun _ => 0) (fun _ => 1) df := by
  rw [dU2]
  refine ⟨rfl, fun i h => ?_, fun i h => ?_, fun i h => ⟨Nat.le_refl _, by omega⟩, fun i h t ht => ?_⟩
  · rcases (by simp at h; omega : i = 0 ∨ i = 1) with rfl | rfl <;> rfl
  · rcases (by omega : i = 0 ∨ i = 1) with rfl | rfl
    · exact ⟨dK40e, by decide, by decide⟩
    · exact ⟨dK50e, by decide, by decide⟩
  · rcases (by omega : i = 0 ∨ i = 1) with rfl | rfl
    · show (0 : Int) ≤ 2 ∧ (2 : Int) < 2 ^ 63; decide
    · show (0 : Int) ≤ 1 ∧ (1 : Int) < 2 ^ 63; decide
theorem dRows3 : DueRows (under dL3 dK26) 1 (fun _ => dK50) (fun _ => 5) (fun _ => 0) (fun _ => 1) (fun _ _ => 1) := by
  rw [dU3]
  refine ⟨rfl, fun i h => ?_, fun i h => ⟨dK50e, by decide, by decide⟩, fun i h => ⟨Nat.le_refl _, by omega⟩, fun i h t ht => by show (0 : Int) ≤ 1 ∧ (1 : Int) < 2 ^ 63; decide⟩
  obtain rfl : i = 0 := by simp at h; omega
  rfl
theorem dks1 : ∀ p ∈ dL1, p.1.size ≤ maxLen := by decide +kernel
theorem dks2 : ∀ p ∈ dL2, p.1.size ≤ maxLen := by decide +kernel
theorem dks3 : ∀ p ∈ dL3, p.1.size ≤ maxLen := by decide +kernel
theorem dcnt : ∀ M, M ≤ 2 → intAt (dels dL2 dkey M) dT27 2 := fun M hM => by
  rcases (by omega : M = 0 ∨ M = 1 ∨ M = 2) with rfl | rfl | rfl <;> exact .inr (by decide +kernel)
/-- what the example's Take leaves -/
theorem take_ex {w W W' : World} {b : Nat} {F : List Nat} {q : Nat} {e : Ending} (h : TkPost w W b F dL2 q 2 dkey (fun _ => 1) df dbj 4 dT27 ((2 : Nat) : Int) e W') :
    ∃ g cap xg, e = .returned (.slice (some ⟨g, 0, none⟩) 1 cap) ∧ g < W'.heap.size ∧ W'.cell? ⟨g, 0, none⟩ = some (.slice (some ⟨xg, 0, none⟩) 1 1) ∧ Il W' (some ⟨xg, 0, none⟩) 1 (fun _ => 2) ∧ LiveTo w W W' b F dL3 (q + 2) := by
  obtain ⟨xs, v, rfl, hN, hle, hend, hown, hrows, hl⟩ := h
  obtain ⟨x, rfl⟩ : ∃ x, xs = [x] := by
    match xs, hle, hend, hN with
    | [], _, hend, _ =>
      rcases hend with h | h
      · simp at h
      · exact absurd h (by decide)
    | [x], _, _, _ => exact ⟨x, rfl⟩
    | x :: y :: r, hle, _, _ => exact absurd (hle 1 (by simp)) (by decide)
  obtain ⟨g, cap, rfl⟩ := ownsRow_succ hown
  have hc := ownsRow_cell hown rfl (j := 0) (u := x.val) rfl
  have hx := hrows 0 (by simp)
  simp only [List.getElem_cons_zero] at hx
  have hn := hx.n
  refine ⟨g, cap, x.g, rfl, ?_, ?_, ?_, ?_⟩
  · obtain ⟨cs, hg⟩ := ownsRow_typ hown rfl
    exact hp_lt hg
  · rw [hc]; unfold DRow.val; rw [hn]
  · obtain ⟨cs, hg⟩ := hx.ty
    refine ⟨fun i => by decide, fun _ => ⟨x.g, 0, rfl, hp_lt hg, fun i hi => ?_⟩⟩
    obtain rfl : i = 0 := by omega
    exact hx.at_ 0 (by rw [hn]; omega)
  · have e : (if [x].length = 0 then dL2 else if ((2 : Nat) : Int) - ([x].length : Nat) < 1 then sdel (dels dL2 dkey [x].length) dT27 else setL (dels dL2 dkey [x].length) dT27 (numStr (((2 : Nat) : Int) - ([x].length : Nat)))) = dL3 := by
      show (if (1 : Nat) = 0 then dL2 else if ((2 : Nat) : Int) - ((1 : Nat) : Int) < 1 then sdel (dels dL2 dkey 1) dT27 else setL (dels dL2 dkey 1) dT27 (numStr (((2 : Nat) : Int) - ((1 : Nat) : Int)))) = dL3
      decide +kernel
    rw [e] at hl
    exact hl
set_option maxRecDepth 100000 in
set_option maxHeartbeats 4000000 in
theorem lives13_walk (w : World) : Calls Try.prog 28 #[] w fun e w' => e = .returned (.bool true) ∧ Below w.heap.size w w' := by
  have D1 := Lib.hid (fun (W W1 : World) (b : Nat) (F : List Nat) (hl : LiveTo w W W1 b F [] 0) => show Calls Try.prog 29 #[.pointer (some ⟨b, 0, none⟩), .int .i64 5, .slice (some ⟨W1.heap.size, 0, none⟩) 1 1] (W1.alloc (.cells #[.int .i64 1] 3)) fun e W2 => e = .returned (.int .i64 0) ∧ LiveTo w W W2 b F dL1 2 from
    (hl.al (.cells #[.int .i64 1] 3)).seq 2 (fun F1 qa qsa hs hqa => dueadd_live hs 5 dK5 dK50 dT27 (by decide) (by decide) dK5e dK50e dT27e rfl _ 1 1 (fun _ => 1) (il1 1 W1 3 (by decide)) (by decide) (by decide) (fun _ _ => by decide) 0 (.inl ⟨rfl, by decide +kernel⟩) (by decide) (by decide) (by decide) (by decide) (by decide) (fun p hp => by cases hp) (by decide) (by decide +kernel) (by omega)))
  have D2 := Lib.hid (fun (W W1 : World) (b : Nat) (F : List Nat) (hl : LiveTo w W W1 b F dL1 2) => show Calls Try.prog 29 #[.pointer (some ⟨b, 0, none⟩), .int .i64 4, .slice (some ⟨W1.heap.size, 0, none⟩) 1 1] (W1.alloc (.cells #[.int .i64 2] 3)) fun e W2 => e = .returned (.int .i64 0) ∧ LiveTo w W W2 b F dL2 4 from
    (hl.al (.cells #[.int .i64 2] 3)).seq 2 (fun F1 qa qsa hs hqa => dueadd_live hs 4 dK4 dK40 dT27 (by decide) (by decide) dK4e dK40e dT27e (by decide +kernel) _ 1 1 (fun _ => 2) (il1 2 W1 3 (by decide)) (by decide) (by decide) (fun _ _ => by decide) 1 (.inr (by decide +kernel)) (by decide) (by decide) (by decide) (by decide) (by decide) dks1 (by decide +kernel) (by decide +kernel) (by omega)))
  have D3 := Lib.hid (fun (W W1 : World) (b : Nat) (F : List Nat) (hl : LiveTo w W W1 b F dL2 4) => show Calls Try.prog 30 #[.pointer (some ⟨b, 0, none⟩), .int .i64 4] W1 fun e W2 => ∃ g cap xg, e = .returned (.slice (some ⟨g, 0, none⟩) 1 cap) ∧ g < W2.heap.size ∧ W2.cell? ⟨g, 0, none⟩ = some (.slice (some ⟨xg, 0, none⟩) 1 1) ∧ Il W2 (some ⟨xg, 0, none⟩) 1 (fun _ => 2) ∧ LiveTo w W W2 b F dL3 6 from by
    obtain ⟨F1, qa, qsa, hs, hq, ht, hf⟩ := id hl
    refine (duetake_live hs 4 dK26 dT27 dK26e dT27e 2 dkey dbj (fun _ => 0) (fun _ => 1) df dRows2 dks2 (by decide +kernel) (by omega) 2 (by decide) dcnt).mono ?_
    rintro e W2 hp
    obtain ⟨g, cap, xg, h1, h2, h3, h4, h5⟩ := take_ex hp
    refine ⟨g, cap, xg, h1, h2, h3, h4, hl.join hf ?_⟩
    obtain ⟨F2, q2, qs2, g1, g2, g3⟩ := h5
    exact ⟨F2, q2, qs2, g1, by omega, g3⟩)
  have D4 := Lib.hid (fun (W W1 : World) (b : Nat) (F : List Nat) (hl : LiveTo w W W1 b F dL3 6) => show Calls Try.prog 78 #[.pointer (some ⟨b, 0, none⟩)] W1 fun e W2 => e = .returned (.tuple #[.int .i64 5, .bool true]) ∧ LiveTo w W W2 b F dL3 6 ∧ Below W1.heap.size W1 W2 from
    hl.read (fun F1 qa qsa hs hqa => duefirst_live hs dK26 dK26e 1 (fun _ => dK50) (fun _ => 5) (fun _ => 0) (fun _ => 1) (fun _ _ => 1) dRows3 dks3 (by decide +kernel) (Nat.le_refl _)))
  have D5 := Lib.hid (fun (W4 W5 : World) (g cap xg : Nat) (hg : g < W4.heap.size) (hc : W4.cell? ⟨g, 0, none⟩ = some (.slice (some ⟨xg, 0, none⟩) 1 1)) (hi : Il W4 (some ⟨xg, 0, none⟩) 1 (fun _ => 2)) (hb : Below W4.heap.size W4 W5) => show Calls Try.prog 24 #[.slice (some ⟨g, 0, none⟩) 1 cap, .slice (some ⟨W5.heap.size + 1, 0, none⟩) 1 1] ((W5.alloc (.cells #[.int .i64 2] 3)).alloc (.cells #[.slice (some ⟨W5.heap.size, 0, none⟩) 1 1] 30)) fun e w' => e = .returned (.bool true) ∧ Below ((W5.alloc (.cells #[.int .i64 2] 3)).alloc (.cells #[.slice (some ⟨W5.heap.size, 0, none⟩) 1 1] 30)).heap.size ((W5.alloc (.cells #[.int .i64 2] 3)).alloc (.cells #[.slice (some ⟨W5.heap.size, 0, none⟩) 1 1] 30)) w' from by
    have hx := (Below.refl W5.heap.size W5).alloc (Nat.le_refl _) (.cells #[.int .i64 2] 3)
    have hy := hx.alloc hx.size (.cells #[.slice (some ⟨W5.heap.size, 0, none⟩) 1 1] 30)
    have hz := hb.trans (hy.mono hb.size)
    have hcell := heap_alloc_new (W5.alloc (.cells #[.int .i64 2] 3)) (.cells #[.slice (some ⟨W5.heap.size, 0, none⟩) 1 1] 30)
    rw [World.size_alloc] at hcell
    refine rows12_true _ _ 1 cap 1 (fun _ => some ⟨xg, 0, none⟩) (fun _ => some ⟨W5.heap.size, 0, none⟩) (fun _ => 1) (fun _ => 1) (fun _ => 1) (fun _ _ => 2) _ (by decide) (fun _ => ⟨g, 0, rfl, Nat.lt_of_lt_of_le hg hz.size, fun i hi => ?_⟩) (fun _ => ⟨W5.heap.size + 1, 0, rfl, hp_lt hcell, fun i hi => ?_⟩) (fun _ _ => by decide) (fun _ _ => hi.below hz) (fun _ _ => (il1 2 W5 3 (by decide)).below ((Below.refl _ _).alloc (Nat.le_refl _) _))
    · obtain rfl : i = 0 := by omega
      exact (hz.cell (p := ⟨g, 0, none⟩) hg).trans hc
    · obtain rfl : i = 0 := by omega
      exact (hp_cell (i := 0) hcell).trans rfl)
  obtain ⟨r1, e1⟩ : ∃ x, x = dL1 := ⟨_, rfl⟩
  obtain ⟨r2, e2⟩ : ∃ x, x = dL2 := ⟨_, rfl⟩
  obtain ⟨r3, e3⟩ : ∃ x, x = dL3 := ⟨_, rfl⟩
  rw [← e1] at D1 D2
  rw [← e2] at D2 D3
  rw [← e3] at D3 D4
  clear e1 e2 e3
  go_enter Try.func28, Try.ntmps28
  go_wp2_with (first
    | (go_at_call 24; with_reducible refine (D5.out _ _ _ _ _ hg4.out hc4.out hi4.out hb5'.out).mono ?_; rintro e w6 ⟨rfl, hb6⟩; have B6 := Lib.hid hb6; clear hb6)
    | (go_at_call 78; with_reducible refine (D4.out _ _ _ _ h4.out).mono ?_; rintro e w5 ⟨rfl, hs5, hb5⟩; have h5 := Lib.hid hs5; have hb5' := Lib.hid hb5; clear hs5 hb5)
    | (go_at_call 30; with_reducible refine (D3.out _ _ _ _ h3.out).mono ?_; rintro e w4 ⟨g, cap, xg, rfl, hg, hc, hi, hs4⟩; have h4 := Lib.hid hs4; have hg4 := Lib.hid hg; have hc4 := Lib.hid hc; have hi4 := Lib.hid hi; clear hs4 hg hc hi)
    | (go_at_call 29; have g5 := h2; clear g5; with_reducible refine (D2.out _ _ _ _ h2.out).mono ?_; rintro e w3 ⟨rfl, hs3⟩; have h3 := Lib.hid hs3; clear hs3)
    | (go_at_call 29; with_reducible refine (D1.out _ _ _ _ h1.out.start).mono ?_; rintro e w2 ⟨rfl, hs2⟩; have h2 := Lib.hid hs2; clear hs2)
    | (go_at_call 13; refine (SNew.new w _ (Below.refl _ _)).mono ?_; rintro e w1 ⟨b, F1, rfl, hs1, _, _⟩; have h1 := Lib.hid hs1; clear hs1))
  go_ret
  have hx := h5.out.al (.cells #[.int .i64 2] 3)
  exact ⟨rfl, ((hx.al (.cells #[.slice (some ⟨w5.heap.size, 0, none⟩) 1 1] 30)).post B6.out).l⟩
end Go.Proofs.Ytedkhpnlhkjjgaa
