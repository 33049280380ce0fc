/- What Mint and Pay do to the supplies. -/
import Derived.Test.YtffipojlpdphiaaG26
import Derived.Test.YtffipojlpdphiaaG28
import Derived.Test.YtffipojlpdphiaaG00
import Derived.Deep.Slices
import Derived.ChangeSlices
import Derived.Carry
namespace Go.Proofs.Ytffipojlpdphiaa
open Go.RowKit Go.Maps Go.Sort

theorem LiveTo.upK {w W W' : World} {b : Nat} {F : List Nat} {L : SL} {q q' : Nat} (h : LiveTo w W W' b F L q) (hq : q ≤ q') : LiveTo w W W' b F L q' := by
  obtain ⟨F1, q1, qs1, g1, g2, g3⟩ := h
  exact ⟨F1, q1, qs1, g1, by omega, g3⟩
theorem keep_mint (w : World) (b : Nat) (L : SL) (hM : BM L) (hN : L.length < 800000) (t a : Int) (n : Nat) (hn : n < 2 ^ 256) :
    ∃ (er : Int) (L2 : SL), BM L2 ∧ L2.length ≤ L.length + 2 ∧ 0 ≤ er ∧ (er = 0 → amt L (kS t) + n < 2 ^ 256 ∧ ∀ t', okT t' → amt L2 (kS t') = if t' = t then amt L (kS t) + n else amt L (kS t')) ∧ (er ≠ 0 → ∀ t', okT t' → amt L2 (kS t') = amt L (kS t')) ∧
      (∀ (W : World) (F : List Nat) (q : Nat) (qs : List Value), SNew w W b F L q qs → q < 800000 →
        Calls Try.prog 24 #[.pointer (some ⟨b, 0, none⟩), .int .i64 t, .int .i64 a, U n] W fun e W' => e = .returned (.int .i64 er) ∧ LiveTo w W W' b F L2 (q + 2)) := by
  have hm := MOST_lt
  by_cases hg : (okT t ∧ okA a) ∧ n ≤ MOST
  · obtain ⟨⟨ht, ha⟩, hn1⟩ := hg
    have hgg : (1 ≤ t ∧ t ≤ 1000) ∧ 1 ≤ a ∧ a ≤ 4294967295 := ⟨ht, ha⟩
    have hS2 := amt_lt L (kS t)
    by_cases ho : amt L (kS t) + n ≤ MOST
    · obtain ⟨hB, hBn, e1⟩ := hM.mint ht ha n ho
      have hl1 := setA_le L (kS t) (amt L (kS t) + n)
      have hl2 := setA_le (setA L (kS t) (amt L (kS t) + n)) (kA t a) (amt L (kA t a) + n)
      have he1 : amtAt (setA L (kS t) (amt L (kS t) + n)) (kA t a) (amt L (kA t a)) := by
        have h1 := hM.at_ (kA t a)
        unfold amtAt at h1 ⊢
        rw [sget_setA, if_neg (fun e => kS_kA ht ht ha e.symm)]
        exact h1
      refine ⟨0, _, hB, by omega, by decide, fun _ => ⟨by omega, fun t' ht' => ?_⟩, fun h => absurd rfl h, fun W F q qs hs hq => ?_⟩
      · rw [amt_setA _ _ _ _ (by omega), if_neg (kS_kA ht' ht ha), amt_setA _ _ _ _ (by omega)]
        by_cases e : t' = t
        · rw [if_pos e, if_pos (by rw [e])]
        · rw [if_neg e, if_neg (fun hh => e (kS_inj ht' ht hh))]
      · exact mint_go hs t a n _ _ (kS t) (kA t a) hgg ho hBn rfl rfl (kS_size t) (kA_size t a) (kS_ne ht) (kA_ne ht ha) (hM.at_ _) he1 (by omega) (by omega) (by omega)
    · refine ⟨6, L, hM, by omega, by decide, fun h => absurd h (by decide), fun _ t' _ => rfl, fun W F q qs hs hq => ?_⟩
      exact (mint_over hs t a n _ (kS t) hgg hn1 (by omega) hS2 rfl (kS_size t) (hM.at_ _)).mono fun e w' h => ⟨h.1, (hs.same h.2).upK (by omega)⟩
  · refine ⟨2, L, hM, by omega, by decide, fun h => absurd h (by decide), fun _ t' _ => rfl, fun W F q qs hs hq => ?_⟩
    exact (mint_no _ t a n W hn hg).mono fun e w' h => ⟨h.1, (hs.same h.2).upK (by omega)⟩
theorem keep_pay (w : World) (b : Nat) (L : SL) (hM : BM L) (hN : L.length < 800000) (t a c : Int) (n : Nat) (hn : n < 2 ^ 256) :
    ∃ (er : Int) (L2 : SL), BM L2 ∧ L2.length ≤ L.length + 2 ∧ 0 ≤ er ∧ (∀ t', okT t' → amt L2 (kS t') = amt L (kS t')) ∧
      (∀ (W : World) (F : List Nat) (q : Nat) (qs : List Value), SNew w W b F L q qs → q < 800000 →
        Calls Try.prog 26 #[.pointer (some ⟨b, 0, none⟩), .int .i64 t, .int .i64 a, .int .i64 c, U n] W fun e W' => e = .returned (.int .i64 er) ∧ LiveTo w W W' b F L2 (q + 2)) := by
  have hm := MOST_lt
  by_cases hg : (okT t ∧ okA a) ∧ okT t ∧ okA c
  · obtain ⟨⟨ht, ha⟩, _, hc⟩ := hg
    have hg1 : (1 ≤ t ∧ t ≤ 1000) ∧ 1 ≤ a ∧ a ≤ 4294967295 := ⟨ht, ha⟩
    have hg2 : (1 ≤ t ∧ t ≤ 1000) ∧ 1 ≤ c ∧ c ≤ 4294967295 := ⟨ht, hc⟩
    have hX := amt_lt L (kA t a)
    have hY := amt_lt L (kA t c)
    by_cases hx : n ≤ amt L (kA t a)
    · by_cases hac : a = c
      · subst hac
        refine ⟨0, L, hM, by omega, by decide, fun t' _ => rfl, fun W F q qs hs hq => ?_⟩
        exact pay_with _ W t a a n 0 (kA t a) (kA t a) _ hg1 hg1 rfl rfl (fun X hb => (cmove_same (hs.below hb) (kA t a) (kA t a) _ n (kA_size t a) (hM.at_ _) hX hn hx rfl).mono fun e w' h => ⟨h.1, (hs.same (hb.trans (h.2.mono hb.size))).upK (by omega)⟩)
      · obtain ⟨hB, hYn, e1, ec⟩ := hM.pay ht ha hc hac n hx
        have hk : kA t a ≠ kA t c := fun e => hac (kA_inj ht ht ha hc e).2
        have hl1 := setA_le L (kA t c) (amt L (kA t c) + n)
        have hl2 := setA_le (setA L (kA t c) (amt L (kA t c) + n)) (kA t a) (amt L (kA t a) - n)
        have he1 : amtAt (setA L (kA t c) (amt L (kA t c) + n)) (kA t a) (amt L (kA t a)) := by
          have h1 := hM.at_ (kA t a)
          unfold amtAt at h1 ⊢
          rw [sget_setA, if_neg hk]
          exact h1
        refine ⟨0, _, hB, by omega, by decide, fun t' ht' => ?_, fun W F q qs hs hq => ?_⟩
        · rw [amt_setA _ _ _ _ (by omega), if_neg (kS_kA ht' ht ha), amt_setA _ _ _ _ (by omega), if_neg (kS_kA ht' ht hc)]
        · exact pay_live hs t a c _ _ n (kA t a) (kA t c) hg1 hg2 rfl rfl (kA_size t a) (kA_ne ht ha) (kA_size t c) (kA_ne ht hc) hk (hM.at_ _) (hM.at_ _) he1 hX hY hn hx hYn (by omega) (by omega) (by omega)
    · refine ⟨13, L, hM, by omega, by decide, fun t' _ => rfl, fun W F q qs hs hq => ?_⟩
      exact pay_with _ W t a c n 13 (kA t a) (kA t c) _ hg1 hg2 rfl rfl (fun X hb => (cmove_less (hs.below hb) (kA t a) (kA t c) _ n (kA_size t a) (hM.at_ _) hX hn (by omega)).mono fun e w' h => ⟨h.1, (hs.same (hb.trans (h.2.mono hb.size))).upK (by omega)⟩)
  · refine ⟨2, L, hM, by omega, by decide, fun t' _ => rfl, fun W F q qs hs hq => ?_⟩
    exact (pay_no _ W t a c n hg).mono fun e w' h => ⟨h.1, (hs.same h.2).upK (by omega)⟩
/-- a token's total is its supply -/
theorem keep_total {w W : World} {b : Nat} {F : List Nat} {L : SL} {q : Nat} {qs : List Value} (hs : SNew w W b F L q qs) (hM : BM L) (hN : L.length < 800000) (t : Int) (ht : okT t) (n : Nat) (hn : amt L (kS t) = n) :
    Calls Try.prog 27 #[.pointer (some ⟨b, 0, none⟩), .int .i64 t] W fun e w' => e = .returned (.tuple #[U n, .bool true]) ∧ Below W.heap.size W w' := by
  have hi := hM.inv t ht
  have hm := MOST_lt
  refine total_live hs t _ _ _ _ ht rfl rfl rfl rfl (fun p hp => (hM.z p hp).1) (by omega) _ ?_ (by omega)
  simp only [under_filter hM.r]
  rw [hM.total ht, ← hn, hi.1]
theorem keep_get {w W : World} {b : Nat} {F : List Nat} {L : SL} {q : Nat} {qs : List Value} (hs : SNew w W b F L q qs) (hM : BM L) (k : ByteArray) (hk : k.size ≤ maxLen) : ∃ (v : ByteArray) (is : Bool), v.toList.isEmpty = decide (amt L k = 0) ∧
    ∀ W1, Below W.heap.size W W1 → Calls Try.prog 28 #[.pointer (some ⟨b, 0, none⟩), .string k] W1 fun e w' => e = .returned (.tuple #[.string v, .bool is]) ∧ Below W1.heap.size W1 w' := by
  cases hg : sget L k with
  | none =>
    have h0 : amt L k = 0 := by unfold amt; rw [hg]; exact fbv_nil
    refine ⟨⟨#[]⟩, false, by rw [decide_eq_true h0, Lib.toList_data]; rfl, fun W1 hb => ?_⟩
    exact ((hs.below hb).get_none k hk hg).mono fun e w' h => ⟨h.1, h.2.2⟩
  | some v =>
    obtain ⟨hv, h0⟩ := hM.some hg
    refine ⟨v, true, by rw [decide_eq_false h0]; exact ba_nil (by rw [hv]; exact amtStr_ne _), fun W1 hb => ?_⟩
    exact ((hs.below hb).get_some k v hk hg).mono fun e w' h => ⟨h.1, h.2.2⟩
theorem fAct17k : Foreign 55 := ⟨by decide, by decide, by decide, by decide⟩
theorem fArr17 : Foreign 53 := ⟨by decide, by decide, by decide, by decide⟩
end Go.Proofs.Ytffipojlpdphiaa

namespace Go.Proofs.Ytffipojlpdphiaa
open Go.RowKit

/-- N rows of k cells at A: row i holds V i -/
def RowsV (W : World) (A : Option Addr) (N k : Nat) (V : Nat → List Value) : Prop :=
  0 < N → ∃ g o, A = some ⟨g, o, none⟩ ∧ g < W.heap.size ∧ ∀ i, i < N → ∀ j u, (V i)[j]? = some u → W.cell? ⟨g, o + i * k + j, none⟩ = some u
theorem RowsV.nil (W : World) (A : Option Addr) (k : Nat) (V : Nat → List Value) : RowsV W A 0 k V := fun h => absurd h (by omega)
theorem RowsV.below {W W' : World} {A : Option Addr} {N k : Nat} {V : Nat → List Value} (h : RowsV W A N k V) (hb : Below W.heap.size W W') : RowsV W' A N k V := fun hN => by
  obtain ⟨g, o, e, hg, hc⟩ := h hN
  refine ⟨g, o, e, Nat.lt_of_lt_of_le hg hb.size, fun i hi j u hu => ?_⟩
  exact (hb.cell (p := ⟨g, o + i * k + j, none⟩) hg).trans (hc i hi j u hu)
theorem RowsV.of_cells {W : World} {a : Addr} {N k : Nat} {V : Nat → List Value} (hk : 0 < k) (h : ∀ i, i < N → W.cells? 0 (a.add (i * k)) k = some (V i)) : RowsV W (some a) N k V := fun hN => by
  have hat : ∀ i, i < N → ∀ j u, (V i)[j]? = some u → W.cell? (a.add (i * k + j)) = some u := fun i hi j u hu => by
    obtain ⟨_, hl, hc⟩ := World.cells?_some (h i hi)
    have hj : j < k := by
      rw [← hl]
      rcases Nat.lt_or_ge j (V i).length with h | h
      · exact h
      · rw [List.getElem?_eq_none h] at hu; cases hu
    have := hc j hj
    rw [Go.Deep.add_add] at this
    rw [this, hu]
  obtain ⟨_, hl, _⟩ := World.cells?_some (h 0 hN)
  obtain ⟨u, hu⟩ : ∃ u, (V 0)[0]? = some u := ⟨(V 0)[0]'(by omega), by rw [List.getElem?_eq_getElem]⟩
  have h0 := hat 0 hN 0 u hu
  have hlt := World.block_lt_of_cell? W _ h0
  obtain ⟨g, o, sp⟩ := a
  have hspot : sp = none := by simpa [Addr.add] using World.cell?_spot h0
  subst hspot
  refine ⟨g, o, rfl, by simpa [Addr.add] using hlt, fun i hi j u hu => ?_⟩
  have := hat i hi j u hu
  rw [show (⟨g, o, none⟩ : Addr).add (i * k + j) = ⟨g, o + (i * k + j), none⟩ from by
    generalize i * k + j = z
    cases z <;> simp [Addr.add], ← Nat.add_assoc] at this
  exact this
end Go.Proofs.Ytffipojlpdphiaa

namespace Go.Proofs.Ytffipojlpdphiaa
open Go.ChangeShapes Go.WideShapes Go.ChangeAt Go.RowKit

theorem cellsU8 : Try.prog.cellsOf 5 = 1 := by kernel_rfl
section
variable {H : Type} {enc : TypeId × Value → H} {W : World} {base : Nat}
set_option maxRecDepth 100000 in
theorem open_bl {v : Value} {d : DataW H} {p : List MemPlace} (hv : Value.okWide Try.prog W .any base 191 v) (h : DataW.Trod enc Try.prog W 0 (fun _ => true) true 191 v d p) :
    ∃ A n c f, v = .slice A n c ∧ Sl W A n f := by
  obtain ⟨a0, n, c, rfl⟩ := okWide_slice Try.underlying191 hv
  obtain ⟨fuel, hf⟩ := h
  rcases open_ints Try.underlying191 Try.underlying5 cellsU8 hf with ⟨hcs, hx⟩ | ⟨a, len', cap', zs, hcs, _, hl, hm, hz, hx, hcell, hwz⟩
  · simp [Value.cells] at hcs
    obtain ⟨rfl, rfl, rfl⟩ := hcs
    exact ⟨none, 0, 0, fun _ => 0, rfl, fun _ => by decide, fun h => absurd h (by omega)⟩
  · simp only [Value.cells, List.cons.injEq, Value.slice.injEq, and_true] at hcs
    obtain ⟨rfl, rfl, rfl⟩ := hcs
    simp only [if_true] at hz
    have hb : ∀ i, 0 ≤ zs.getD i 0 ∧ zs.getD i 0 < 256 := fun i => by
      rcases Nat.lt_or_ge i zs.length with hi | hi
      · have h1 := hwz (zs.getD i 0) (by simp [List.getD, List.getElem?_eq_getElem hi])
        have h2 := bounds_u8 h1
        omega
      · simp only [List.getD, List.getElem?_eq_none hi, Option.getD_none]; decide
    refine ⟨some a, n, c, fun i => (zs.getD i 0).toNat, rfl, fun i => by have := hb i; omega, fun hn => ?_⟩
    have hc0 := hcell 0 (by omega)
    have hlt := World.block_lt_of_cell? W _ hc0
    obtain ⟨g, o, sp⟩ := a
    have hspot : sp = none := by simpa [Addr.add] using World.cell?_spot hc0
    subst hspot
    exact ⟨g, o, rfl, hlt, fun i hi => by
      have h1 := hcell i (by omega)
      have h2 := (hb i).1
      rw [add_plain] at h1
      rw [h1, Int.toNat_of_nonneg h2]⟩
set_option maxRecDepth 100000 in
theorem open_bl2 {v : Value} {d : DataW H} {p : List MemPlace} (hv : Value.okWide Try.prog W .any base 191 v) (h : DataW.Trod enc Try.prog W 0 (fun _ => true) true 191 v d p) :
    ∃ A n c f, v = .slice A n c ∧ Sl W A n f ∧ (A = none → n = 0 ∧ c = 0) := by
  obtain ⟨a0, n, c, rfl⟩ := okWide_slice Try.underlying191 hv
  obtain ⟨fuel, hf⟩ := h
  rcases open_ints Try.underlying191 Try.underlying5 cellsU8 hf with ⟨hcs, hx⟩ | ⟨a, len', cap', zs, hcs, _, hl, hm, hz, hx, hcell, hwz⟩
  · simp [Value.cells] at hcs
    obtain ⟨rfl, rfl, rfl⟩ := hcs
    exact ⟨none, 0, 0, fun _ => 0, rfl, ⟨fun _ => by decide, fun h => absurd h (by omega)⟩, fun _ => ⟨rfl, rfl⟩⟩
  · simp only [Value.cells, List.cons.injEq, Value.slice.injEq, and_true] at hcs
    obtain ⟨rfl, rfl, rfl⟩ := hcs
    simp only [if_true] at hz
    have hb : ∀ i, 0 ≤ zs.getD i 0 ∧ zs.getD i 0 < 256 := fun i => by
      rcases Nat.lt_or_ge i zs.length with hi | hi
      · have h1 := hwz (zs.getD i 0) (by simp [List.getD, List.getElem?_eq_getElem hi])
        have h2 := bounds_u8 h1
        omega
      · simp only [List.getD, List.getElem?_eq_none hi, Option.getD_none]; decide
    refine ⟨some a, n, c, fun i => (zs.getD i 0).toNat, rfl, ⟨fun i => by have := hb i; omega, fun hn => ?_⟩, fun h => by cases h⟩
    have hc0 := hcell 0 (by omega)
    have hlt := World.block_lt_of_cell? W _ hc0
    obtain ⟨g, o, sp⟩ := a
    have hspot : sp = none := by simpa [Addr.add] using World.cell?_spot hc0
    subst hspot
    exact ⟨g, o, rfl, hlt, fun i hi => by
      have h1 := hcell i (by omega)
      have h2 := (hb i).1
      rw [add_plain] at h1
      rw [h1, Int.toNat_of_nonneg h2]⟩
end
end Go.Proofs.Ytffipojlpdphiaa
