/- The law StoreLast: what is read at its end. -/
import Derived.Test.YtffipojlpdphiaaG31
import Derived.Test.YtffipojlpdphiaaG24
import Derived.Test.YtffipojlpdphiaaG30
import Derived.Test.YtffipojlpdphiaaG18
import Derived.Laws.AppendOwn
namespace Go.Proofs.Ytffipojlpdphiaa
open Go.RowKit Go.Maps Go.Sort

theorem lpre_take : ∀ (k b : List UInt8), b.length ≤ k.length → ((k.take b.length == b) = Lib.hasPrefix k b)
  | _, [], _ => by simp [Lib.hasPrefix]
  | [], b :: x, h => by simp at h
  | a :: k, b :: x, h => by
    have ih := lpre_take k x (by simpa using h)
    unfold Lib.hasPrefix at ih ⊢
    rw [List.length_cons, List.take_succ_cons, List.isPrefixOf_cons_cons, ← ih, Bool.eq_iff_iff]
    rw [Bool.and_eq_true, beq_iff_eq, beq_iff_eq, beq_iff_eq, List.cons_eq_cons]
    exact ⟨fun ⟨h1, h2⟩ => ⟨h1.symm, h2⟩, fun ⟨h1, h2⟩ => ⟨h1.symm, h2⟩⟩
theorem pre_ext {k b v : ByteArray} (h : b.size ≤ k.size) : ((k.extract 0 b.size).toList == b.toList) = hpre b (k, v) := by
  have h1 : b.size = b.data.toList.length := by rw [Array.length_toList]; rfl
  have h2 : k.size = k.data.toList.length := by rw [Array.length_toList]; rfl
  have e : (k.extract 0 b.size).toList = k.data.toList.take b.data.toList.length := by
    rw [Lib.toList_data, ByteArray.data_extract, Array.toList_extract, ← h1]
    show ((k.data.toList).drop 0).take (b.size - 0) = _
    rw [List.drop_zero, Nat.sub_zero]
  rw [e, Lib.toList_data, lpre_take _ _ (by omega)]
  rfl
theorem pre_short {k b v : ByteArray} (h : k.size < b.size) : hpre b (k, v) = false := by
  cases hp : hpre b (k, v) with
  | false => rfl
  | true =>
    unfold hpre Lib.hasPrefix at hp
    have := (List.isPrefixOf_iff_prefix.1 hp).length_le
    have h1 : b.size = b.data.toList.length := by rw [Array.length_toList]; rfl
    have h2 : k.size = k.data.toList.length := by rw [Array.length_toList]; rfl
    dsimp only at this
    omega
theorem cp_take {L : SL} (P : ByteArray × ByteArray → Bool) {m : Nat} (h : m < L.length) : (L.take (m + 1)).countP P = (L.take m).countP P + (if P L[m] = true then 1 else 0) := by
  rw [List.take_succ_eq_append_getElem h, List.countP_append, List.countP_singleton]
/-- All by it -/
theorem SlW.all {w W : World} {b : Nat} {key want : ByteArray} {th : Bool} {c : Nat} {L : SL} (h : SlW w W b key want th c L) (hc : c < 1000000) :
    Calls Try.prog 22 #[.pointer (some ⟨b, 0, none⟩)] W fun e w' => (∃ v, e = .returned v ∧ w'.ownsRow W.heap.size 137 2 v L.length (pcs L)) ∧ Below W.heap.size W w' := by
  obtain ⟨F, q, qs, hs, hq⟩ := h.s
  exact all_live b F L q qs W hs.s h.ks (by have := h.len; omega)
theorem SlW.under {w W : World} {b : Nat} {key want : ByteArray} {th : Bool} {c : Nat} {L : SL} (h : SlW w W b key want th c L) (hc : c < 1000000) (x : ByteArray) :
    Calls Try.prog 79 #[.pointer (some ⟨b, 0, none⟩), .string x] W fun e w' => (∃ A C, e = .returned (.slice A (L.countP (hpre x)) C)) ∧ Below W.heap.size W w' := by
  obtain ⟨F, q, qs, hs, hq⟩ := h.s
  refine (under_live b F L q qs W hs.s x h.ks (by have := h.len; omega)).mono ?_
  rintro e w' ⟨⟨v, rfl, ho⟩, hb⟩
  obtain ⟨A, C, rfl, _⟩ := row_pairs ho
  obtain ⟨bm, vb, vk, vq, _, hM⟩ := hs.s
  exact ⟨⟨A, C, by rw [under_count hM.so x]⟩, hb⟩
end Go.Proofs.Ytffipojlpdphiaa

namespace Go.Proofs.Ytffipojlpdphiaa
open Go.RowKit Go.Maps Go.Sort

set_option maxRecDepth 100000 in
set_option maxHeartbeats 4000000 in
theorem runder_walk (w W : World) (m : Nat) (L : SL) (R : List Ch) (x : ByteArray) (h : DS w W m L R) (hN : L.length < 1000000) :
    Calls Try.prog 106 #[.pointer (some ⟨m, 0, none⟩), .string x] W fun e W' => (∃ v, e = .returned v ∧ W'.ownsRow W.heap.size 137 2 v (L.filter (hpre x)).length (pcs (L.filter (hpre x)))) ∧ Below W.heap.size W W' := by
  obtain ⟨i0, hi, hz0, hz1, hz2⟩ := info_parts infoPair
  obtain ⟨vL, vP, h1, h2, h3⟩ := h.ex
  obtain ⟨A, C, rfl, hrow⟩ := row_pairs h2
  have c0 := (hp_cell (i := 0) h1).trans rfl
  have HRow := Lib.hid hrow
  obtain ⟨n, hn⟩ : ∃ n, n = L.length := ⟨_, rfl⟩
  rw [← hn] at c0
  have HN := Lib.hid hn
  have hnI : (n : Int) ≤ 1000000 := by omega
  clear h h1 h2 h3 hrow hn hN
  go_enter Try.func106, Try.ntmps106
  go_wp2
  go_loopw [5, 13] (fun v i wr => ∃ j : Nat, j ≤ n ∧ i = .int .i64 (j : Nat) ∧ wr.ownsRow W.heap.size 137 2 v ((L.take j).filter (hpre x)).length (pcs ((L.take j).filter (hpre x))) ∧ Below W.heap.size W wr) (fun _ i _ => n - (intOf i).toNat)
  case atStart => exact ⟨0, Nat.zero_le _, rfl, World.ownsRow_nil _ _ _ _, Below.refl _ _⟩
  case round =>
    obtain ⟨j, hj, rfl, hown, hbb⟩ := hrel
    have HO := Lib.hid hown
    have HB := Lib.hid hbb
    by_cases hlt : j < n
    · have p1 : (j : Int) < (n : Int) := by omega
      have hjL : j < L.length := by have := HN.out; omega
      obtain ⟨g, rfl, _, hg, hc⟩ := HRow.out (by omega)
      have a0 := (hbb.cell (p := ⟨g, j * 2, none⟩) hg).trans (hc j hjL).1
      have a1 := (hbb.cell (p := ⟨g, j * 2 + 1, none⟩) hg).trans (hc j hjL).2
      have htk : L.take (j + 1) = L.take j ++ [L[j]] := List.take_succ_eq_append_getElem hjL
      obtain ⟨p, hp⟩ : ∃ p, p = L[j] := ⟨_, rfl⟩
      rw [← hp] at a0 a1 htk
      obtain ⟨k, v⟩ := p
      simp only at a0 a1
      have hfl : (L.take (j + 1)).filter (hpre x) = (L.take j).filter (hpre x) ++ (if hpre x (k, v) = true then [(k, v)] else []) := by
        rw [htk, List.filter_append]
        congr 1
        by_cases hq : hpre x (k, v) = true
        · rw [if_pos hq, List.filter_cons_of_pos hq, List.filter_nil]
        · rw [if_neg hq, List.filter_cons_of_neg hq, List.filter_nil]
      have hX := hbb.alloc hbb.size (.cells #[.string k, .string v] 137)
      have hnx := heap_alloc_new wr (.cells #[.string k, .string v] 137)
      have HX := Lib.hid (And.intro hX (And.intro hnx hown))
      have hln : ((L.take j).filter (hpre x)).length ≤ j := by
        have := List.length_filter_le (hpre x) (L.take j)
        rw [List.length_take] at this; omega
      obtain ⟨q, hq⟩ : ∃ q, q = (L.take j).filter (hpre x) := ⟨_, rfl⟩
      rw [← hq] at hfl hln HX HO
      have HF := Lib.hid hfl
      clear hown hbb hc hp htk hX hnx hfl hq
      by_cases hsz : x.size ≤ k.size
      · have p4 : (x.size : Int) ≤ (k.size : Int) := by omega
        have hq := pre_ext (v := v) hsz
        cases hpb : hpre x (k, v) with
        | true =>
          rw [hpb] at hq
          have hcn := HF.out
          rw [hpb, if_pos rfl] at hcn
          have HCN := Lib.hid hcn
          clear hcn hpb
          go_upto_region 6 with fail
          generalize hW5 : wr.alloc (.cells #[.string k, .string v] 137) = W5
          have HX5 := HX.out
          rw [hW5] at HX5
          have y0 := (hp_cell (i := 0) HX5.2.1).trans rfl
          have y1 := (hp_cell (i := 1) HX5.2.1).trans rfl
          have ho5 := HO.out.alloc (.cells #[.string k, .string v] 137)
          rw [hW5] at ho5
          have HO5 := Lib.hid (And.intro ho5 HX5.1)
          clear hW5 ho5 HX5
          go_wp2_with (at_builtin; refine wpList_append_own _ rfl _ _ _ rfl W.heap.size 137 i0 _ 2 32 Try.underlying28 hi hz0 hz1 hz2 rfl (by omega) _ q.length (pcs q) rfl (HO5.out.1.alloc _) ⟨W5.heap.size, 0, none⟩ 1 1 [Value.string k, Value.string v] rfl rfl (World.news_of_block (cs := #[.string k, .string v]) (t := 137) (fr := (0, 0)) (heap_alloc_new W5 _)) (by simp [Value.oneCell']) (by unfold maxLen; omega) (by omega) (Nat.le_trans HO5.out.2.size (by simp)) ?_; intro v2 w6 hown2 hgrow _; have hb6 : Below W.heap.size W w6 := ((HO5.out.2.alloc HO5.out.2.size (.cells #[.string k, .string v] 137)).grown hgrow (Nat.le_trans HO5.out.2.size (by simp)) (fun q hq => (HO5.out.1.lt q hq).1)); have H6 := Lib.hid (And.intro hown2 hb6); clear hown2 hgrow hb6)
          refine ⟨⟨j + 1, by omega, by go_num, ?_, H6.out.2⟩, by simp [intOf]; omega⟩
          rw [HCN.out, List.length_append, pcs_app]
          exact H6.out.1
        | false =>
          rw [hpb] at hq
          have hcn := HF.out
          rw [hpb, if_neg (by decide), List.append_nil] at hcn
          have HCN := Lib.hid hcn
          clear hcn hpb
          go_wp2
          refine ⟨⟨j + 1, by omega, by go_num, ?_, HX.out.1⟩, by simp [intOf]; omega⟩
          rw [HCN.out]
          exact HX.out.2.2.alloc _
      · have p4 : ¬ (x.size : Int) ≤ (k.size : Int) := by omega
        have hcn := HF.out
        rw [pre_short (by omega), if_neg (by decide), List.append_nil] at hcn
        have HCN := Lib.hid hcn
        clear hcn
        go_wp2
        refine ⟨⟨j + 1, by omega, by go_num, ?_, HX.out.1⟩, by simp [intOf]; omega⟩
        rw [HCN.out]
        exact HX.out.2.2.alloc _
    · obtain rfl : j = n := by omega
      have p1 : ¬ (j : Int) < (j : Int) := by omega
      have e : L.take j = L := List.take_of_length_le (by have := HN.out; omega)
      rw [e] at HO
      clear hown hbb e
      go_wp2
      go_ret
      exact ⟨⟨_, rfl, HO.out⟩, HB.out⟩
end Go.Proofs.Ytffipojlpdphiaa

namespace Go.Proofs.Ytffipojlpdphiaa
open Go.RowKit

/-- Σ i < k, f i * 2^(32 i) -/
def nval (f : Nat → Nat) : Nat → Nat
  | 0 => 0
  | k + 1 => nval f k + f k * 2 ^ (32 * k)
theorem nval_congr {f g : Nat → Nat} : ∀ k, (∀ i, i < k → f i = g i) → nval f k = nval g k
  | 0, _ => rfl
  | k + 1, h => by simp only [nval]; rw [nval_congr k (fun i hi => h i (by omega)), h k (by omega)]
theorem pow_succ32 (k : Nat) : 2 ^ (32 * (k + 1)) = 2 ^ 32 * 2 ^ (32 * k) := by rw [← Nat.pow_add]; congr 1; omega
theorem nval_lt {f : Nat → Nat} : ∀ k, (∀ i, i < k → f i < 2 ^ 32) → nval f k < 2 ^ (32 * k)
  | 0, _ => by simp [nval]
  | k + 1, h => by
    have h1 := nval_lt k (fun i hi => h i (by omega))
    have h2 : f k + 1 ≤ 2 ^ 32 := h k (by omega)
    have h3 := Nat.mul_le_mul_right (2 ^ (32 * k)) h2
    simp only [nval]; rw [pow_succ32]; rw [Nat.add_mul] at h3; omega
theorem nval_top {f : Nat → Nat} {k : Nat} : ∀ {n : Nat}, k ≤ n → (∀ i, k ≤ i → i < n → f i = 0) → nval f n = nval f k
  | 0, hk, _ => by rw [show k = 0 by omega]
  | n + 1, hk, h => by
    rcases Nat.eq_or_lt_of_le hk with e | e
    · rw [e]
    · simp only [nval]; rw [h n (by omega) (by omega), nval_top (n := n) (by omega) (fun i h1 h2 => h i h1 (by omega))]; omega
/-- the k-th word of 32 bits -/
def w32 (n i : Nat) : Nat := n / 2 ^ (32 * i) % 2 ^ 32
theorem w32_lt (n i : Nat) : w32 n i < 2 ^ 32 := Nat.mod_lt _ (by decide)
theorem nval_w32 (n : Nat) : ∀ k, nval (w32 n) k = n % 2 ^ (32 * k)
  | 0 => by simp [nval, Nat.mod_one]
  | k + 1 => by
    simp only [nval]; rw [nval_w32 n k, w32, pow_succ32, Nat.mul_comm (2 ^ 32), Nat.mod_mul, Nat.mul_comm (n / 2 ^ (32 * k) % 2 ^ 32)]

/-- v is a slice of n words of 32 bits, f's values -/
structure Ws (w : World) (v : Value) (n : Nat) (f : Nat → Nat) : Prop where
  small : ∀ i, f i < 2 ^ 32
  at_ : (v = .slice none 0 0 ∧ n = 0) ∨ ∃ g o c, v = .slice (some ⟨g, o, none⟩) n c ∧ n ≤ c ∧ g < w.heap.size ∧ ∀ i, i < n → w.cell? ⟨g, o + i, none⟩ = some (.int .u32 (f i : Nat))
theorem Ws.below {w w' : World} {v : Value} {n : Nat} {f : Nat → Nat} (h : Ws w v n f) (hb : Below w.heap.size w w') : Ws w' v n f := by
  refine ⟨h.small, ?_⟩
  rcases h.at_ with h1 | ⟨g, o, c, e, hc, hg, hx⟩
  · exact .inl h1
  · exact .inr ⟨g, o, c, e, hc, Nat.lt_of_lt_of_le hg hb.size, fun i hi => by rw [hb.cell (p := ⟨g, o + i, none⟩) hg]; exact hx i hi⟩
theorem Ws.cut {w : World} {g o c n k : Nat} {f : Nat → Nat} (h : Ws w (.slice (some ⟨g, o, none⟩) n c) n f) (hk : k ≤ n) : Ws w (.slice (some ⟨g, o, none⟩) k c) k f := by
  refine ⟨h.small, ?_⟩
  rcases h.at_ with ⟨h1, _⟩ | ⟨g', o', c', e, hc, hg, hx⟩
  · cases h1
  · cases e
    exact .inr ⟨g, o, c, rfl, by omega, hg, fun i hi => hx i (by omega)⟩
/-- without noughts above -/
def Trimmed (n : Nat) (f : Nat → Nat) : Prop := n = 0 ∨ f (n - 1) ≠ 0
def TrimPost (w : World) (n : Nat) (f : Nat → Nat) (e : Ending) (w' : World) : Prop :=
  ∃ v k, e = .returned v ∧ k ≤ n ∧ Ws w v k f ∧ nval f k = nval f n ∧ Trimmed k f ∧ w' = w
def TrimRel (n : Nat) (f : Nat → Nat) (w : World) (x : Value) (wr : World) : Prop :=
  ∃ k : Nat, k ≤ n ∧ x = .int .i64 (k : Nat) ∧ (∀ i, k ≤ i → i < n → f i = 0) ∧ wr = w

set_option maxRecDepth 100000 in
set_option maxHeartbeats 1000000 in
theorem trim_walk (v : Value) (n : Nat) (f : Nat → Nat) (w : World) (h : Ws w v n f) (hn : n ≤ 1000) : Calls Try.prog 151 #[v] w (TrimPost w n f) := by
  rcases h.at_ with ⟨rfl, rfl⟩ | ⟨g, o, c, rfl, hc, hg, hx⟩
  · go_enter Try.func151, Try.ntmps151
    go_wp2
    go_loopw [3] (TrimRel 0 f w) (fun x _ => (intOf x).toNat)
    case atStart => exact ⟨0, Nat.le_refl _, rfl, fun i _ h => absurd h (by omega), rfl⟩
    case round =>
      obtain ⟨k, hk, rfl, hz, rfl⟩ := hrel
      obtain rfl : k = 0 := by omega
      go_wp2
      go_ret
      exact ⟨_, 0, rfl, Nat.le_refl _, h, rfl, .inl rfl, rfl⟩
  · go_enter Try.func151, Try.ntmps151
    go_wp2
    go_loopw [3] (TrimRel n f w) (fun x _ => (intOf x).toNat)
    case atStart => exact ⟨n, Nat.le_refl _, rfl, fun i h1 h2 => absurd h2 (by omega), rfl⟩
    case round =>
      obtain ⟨k, hk, rfl, hz, rfl⟩ := hrel
      have hkc : (k : Int) ≤ (c : Int) := by omega
      by_cases hk0 : k = 0
      · have q1 : ¬ (0 : Int) < (k : Int) := by omega
        have Hk0 := Lib.hid hk0
        have Hz := Lib.hid hz
        have Hh := Lib.hid h
        clear hk0 hz h hx
        go_wp2
        go_ret
        exact ⟨_, k, rfl, by omega, Hh.out.cut (by omega), (nval_top hk Hz.out).symm, .inl Hk0.out, rfl⟩
      · obtain ⟨m, hm⟩ : ∃ m, k = m + 1 := ⟨k - 1, by omega⟩
        have q1 : (0 : Int) < (k : Int) := by omega
        have q2 : IntKind.i64.wrap ((k : Int) - 1) = (k : Int) - 1 := IntWalk.i64_in _ (by omega)
        have q3 : ((k : Int) - 1).toNat = m := by omega
        have q4 : (0 : Int) ≤ (k : Int) - 1 := by omega
        have q5 : (k : Int) - 1 < (n : Int) := by omega
        have c1 := hx m (by omega)
        have Hm := Lib.hid hm
        have Hz := Lib.hid hz
        have Hh := Lib.hid h
        clear hm hz h hx
        by_cases h0 : f m = 0
        · have q6 : ((f m : Int) == 0) = true := by rw [h0]; rfl
          have H0 := Lib.hid h0
          clear h0
          go_wp2
          go_roundw
          case rel =>
            refine ⟨m, by have := Hm.out; omega, by congr 1; have := Hm.out; omega, fun i h1 h2 => ?_, rfl⟩
            rcases Nat.eq_or_lt_of_le h1 with e | e
            · rw [← e]; exact H0.out
            · exact Hz.out i (by have := Hm.out; omega) h2
          case measure => simp [intOf]; omega
        · have q6 : ((f m : Int) == 0) = false := by rw [beq_eq_false_iff_ne]; omega
          have H0 := Lib.hid h0
          clear h0
          go_wp2
          go_ret
          exact ⟨_, k, rfl, by omega, Hh.out.cut (by omega), (nval_top hk Hz.out).symm, .inr (by rw [Hm.out, Nat.add_sub_cancel]; exact H0.out), rfl⟩
end Go.Proofs.Ytffipojlpdphiaa
