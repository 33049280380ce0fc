/- bank.each with the closure that adds up, walked; Total on a dead store and on a live one. -/
import Derived.Test.YtnjcnlbphaodcaaGreatG38
import Derived.Test.YtnjcnlbphaodcaaGreatG20
import Derived.Test.YtnjcnlbphaodcaaGreatG19
import Derived.Test.YtnjcnlbphaodcaaGreatG24
import Derived.Test.YtnjcnlbphaodcaaGreatG23
import Derived.Test.YtnjcnlbphaodcaaGreatG08
import Derived.Test.YtnjcnlbphaodcaaGreatG29
import Derived.Test.YtnjcnlbphaodcaaGreatG25
namespace Go.Proofs.YtnjcnlbphaodcaaGreat
open Go.RowKit Go.Maps Go.Sort

def amS (l : SL) : Nat := (l.map fun p => fbv p.2).sum
theorem amS_snoc (l : SL) (p : ByteArray × ByteArray) : amS (l ++ [p]) = amS l + fbv p.2 := by simp [amS]
def amT (R : Nat → SL) : Nat → Nat
  | 0 => 0
  | i + 1 => amT R i + amS (R i)
theorem amT_le (R : Nat → SL) {i m : Nat} (h : i ≤ m) : amT R i ≤ amT R m := by
  induction h with
  | refl => exact Nat.le_refl _
  | step _ ih => exact Nat.le_trans ih (Nat.le_add_right _ _)
theorem amS_take (l : SL) (j : Nat) (h : j < l.length) : amS (l.take (j + 1)) = amS (l.take j) + fbv l[j].2 := by
  rw [List.take_succ_eq_append_getElem h, amS_snoc]
theorem amS_take_le (l : SL) (j : Nat) : amS (l.take j) ≤ amS l := by
  have h := congrArg amS (List.take_append_drop j l)
  unfold amS at h ⊢
  rw [List.map_append, List.sum_append] at h
  omega
theorem cell_touch {F : List Nat} {w w' : World} {g o : Nat} {u : Value} (h : Touch F w w') (hg : g ∉ F) (hc : w.cell? ⟨g, o, none⟩ = some u) : w'.cell? ⟨g, o, none⟩ = some u := by
  have hl := World.block_lt_of_cell? _ _ hc
  rw [← hc]
  simp only [World.cell?, h.block g hl hg]
/-- what Total is told: the four prefixes -/
def bgs (k1 k3 k4 k6 : ByteArray) : Nat → ByteArray
  | 0 => k1
  | 1 => k3
  | 2 => k4
  | _ => k6
end Go.Proofs.YtnjcnlbphaodcaaGreat

namespace Go.Proofs.YtnjcnlbphaodcaaGreat
open Go.RowKit Go.Maps Go.Sort

theorem u8_inj {a b : Nat} (ha : a < 256) (hb : b < 256) (h : UInt8.ofNat a = UInt8.ofNat b) : a = b := by
  have := congrArg UInt8.toNat h
  simpa [Nat.mod_eq_of_lt ha, Nat.mod_eq_of_lt hb] using this
theorem kdata {t : Nat} {f : Nat → Int} {n : Nat} (h1 : 1 ≤ t) (h2 : t ≤ 255) (hf : ∀ i, i < n → 0 ≤ f i) : (keyStr t f n).data.toList = u8l (t :: tl f 0 n) := by
  rw [keyStr_yes h1 h2 hf, ← Lib.toList_data]
  exact strOfNums_u8l _
theorem tl_len8 (f : Nat → Int) : ∀ n, (tl f 0 n).length = 8 * n
  | 0 => rfl
  | n + 1 => by rw [tl_snoc, List.length_append, tl_len8 f n]; simp [kb8]; omega
theorem tl_take (f : Nat → Int) (m : Nat) : ∀ n, m ≤ n → (tl f 0 n).take (8 * m) = tl f 0 m
  | 0, h => by obtain rfl : m = 0 := by omega
               rfl
  | n + 1, h => by
    rcases Nat.lt_or_ge m (n + 1) with h1 | h1
    · rw [tl_snoc, List.take_append_of_le_length (by rw [tl_len8]; omega)]
      exact tl_take f m n (by omega)
    · obtain rfl : m = n + 1 := by omega
      rw [List.take_of_length_le (by rw [tl_len8]; omega)]
theorem tl_inj {f g : Nat → Int} {n : Nat} (hf : ∀ i, i < n → 0 ≤ f i ∧ f i < 2 ^ 63) (hg : ∀ i, i < n → 0 ≤ g i ∧ g i < 2 ^ 63) (h : u8l (tl f 0 n) = u8l (tl g 0 n)) : ∀ i, i < n → f i = g i := by
  intro i hi
  have h1 := chunk_tl (v := ⟨(u8l (tl f 0 n)).toArray⟩) (f := f) (n := n) rfl hi (hf i hi).2
  have h2 := chunk_tl (v := ⟨(u8l (tl f 0 n)).toArray⟩) (f := g) (n := n) h hi (hg i hi).2
  have := (hf i hi).1
  have := (hg i hi).1
  omega
theorem tl_congr {f g : Nat → Int} : ∀ {n : Nat}, (∀ i, i < n → f i = g i) → tl f 0 n = tl g 0 n
  | 0, _ => rfl
  | n + 1, h => by rw [tl_snoc, tl_snoc, tl_congr (fun i hi => h i (by omega)), Nat.zero_add, h n (by omega)]
/-- one key begins with another, of fewer numbers -/
theorem key_prefix {t s : Nat} {f g : Nat → Int} {n m : Nat} (ht : 1 ≤ t ∧ t ≤ 255) (hs : 1 ≤ s ∧ s ≤ 255) (hf : ∀ i, i < n → 0 ≤ f i ∧ f i < 2 ^ 63) (hg : ∀ i, i < m → 0 ≤ g i ∧ g i < 2 ^ 63) (hmn : m ≤ n) (v : ByteArray) :
    hpre (keyStr s g m) (keyStr t f n, v) = true ↔ t = s ∧ ∀ i, i < m → f i = g i := by
  unfold hpre Lib.hasPrefix
  rw [kdata ht.1 ht.2 (fun i hi => (hf i hi).1), kdata hs.1 hs.2 (fun i hi => (hg i hi).1), List.isPrefixOf_iff_prefix, List.prefix_iff_eq_take]
  have e : (u8l (t :: tl f 0 n)).take (u8l (s :: tl g 0 m)).length = UInt8.ofNat t :: u8l (tl f 0 m) := by
    have hl : (u8l (s :: tl g 0 m)).length = 8 * m + 1 := by simp [u8l, tl_len8]
    rw [hl]
    show (UInt8.ofNat t :: u8l (tl f 0 n)).take (8 * m + 1) = _
    rw [List.take_succ_cons]
    unfold u8l
    rw [← List.map_take, tl_take f m n hmn]
  rw [e]
  show UInt8.ofNat s :: u8l (tl g 0 m) = UInt8.ofNat t :: u8l (tl f 0 m) ↔ _
  constructor
  · intro h
    injection h with h1 h2
    exact ⟨(u8_inj (by omega) (by omega) h1).symm, fun i hi => (tl_inj (fun i hi => hg i hi) (fun i hi => hf i (by omega)) h2 i hi).symm⟩
  · rintro ⟨rfl, h⟩
    rw [tl_congr h]
theorem key_size {t : Nat} {f : Nat → Int} {n : Nat} (ht : 1 ≤ t ∧ t ≤ 255) (hf : ∀ i, i < n → 0 ≤ f i) : (keyStr t f n).size = 8 * n + 1 := by
  have h := congrArg List.length (kdata ht.1 ht.2 hf)
  have e : (u8l (t :: tl f 0 n)).length = 8 * n + 1 := by simp [u8l, tl_len8]
  rw [e] at h
  simpa using h
theorem key_ne {t : Nat} {f : Nat → Int} {n : Nat} (ht : 1 ≤ t ∧ t ≤ 255) (hf : ∀ i, i < n → 0 ≤ f i) : keyStr t f n ≠ ⟨#[]⟩ := by
  intro e
  have := key_size ht hf
  rw [e] at this
  have h0 : (⟨#[]⟩ : ByteArray).size = 0 := rfl
  omega
theorem key_inj {t s : Nat} {f g : Nat → Int} {n m : Nat} (ht : 1 ≤ t ∧ t ≤ 255) (hs : 1 ≤ s ∧ s ≤ 255) (hf : ∀ i, i < n → 0 ≤ f i ∧ f i < 2 ^ 63) (hg : ∀ i, i < m → 0 ≤ g i ∧ g i < 2 ^ 63) (h : keyStr t f n = keyStr s g m) :
    t = s ∧ n = m ∧ ∀ i, i < n → f i = g i := by
  have hsz := congrArg ByteArray.size h
  rw [key_size ht (fun i hi => (hf i hi).1), key_size hs (fun i hi => (hg i hi).1)] at hsz
  obtain rfl : n = m := by omega
  have hp := (key_prefix ht hs hf hg (Nat.le_refl _) ⟨#[]⟩).1 (by rw [h]; unfold hpre Lib.hasPrefix; rw [List.isPrefixOf_iff_prefix]; exact List.prefix_rfl)
  exact ⟨hp.1, rfl, hp.2⟩
/-! ### sums -/
/-- the sum of the amounts whose keys begin with x -/
def sumU (L : SL) (x : ByteArray) : Nat := amS (L.filter (hpre x))
theorem sumU_under {L : SL} (hr : Rising (skeys L)) (x : ByteArray) : amS (under L x) = sumU L x := by rw [under_filter hr]; rfl
theorem amS_app (a b : SL) : amS (a ++ b) = amS a + amS b := by simp [amS]
theorem sumU_app (a b : SL) (x : ByteArray) : sumU (a ++ b) x = sumU a x + sumU b x := by unfold sumU; rw [List.filter_append, amS_app]
theorem sumU_one (p : ByteArray × ByteArray) (x : ByteArray) : sumU [p] x = if hpre x p = true then fbv p.2 else 0 := by
  unfold sumU
  by_cases h : hpre x p = true
  · rw [if_pos h, List.filter_cons, if_pos h]; simp [amS]
  · rw [if_neg h, List.filter_cons, if_neg h]; simp [amS]
/-- the amount at a key, whatever stands there -/
def amt (L : SL) (k : ByteArray) : Nat := fbv ((sget L k).getD ⟨#[]⟩)
theorem fbv_nil : fbv ⟨#[]⟩ = 0 := by decide
theorem fbv_lt (s : ByteArray) : fbv s < 2 ^ 256 := by
  unfold fbv
  split
  · exact bnum_lt (sb_lt s) 32
  · decide
theorem amt_lt (L : SL) (k : ByteArray) : amt L k < 2 ^ 256 := fbv_lt _
theorem hpre_key (x k v v' : ByteArray) : hpre x (k, v) = hpre x (k, v') := rfl
/-- the list, parted at a key that stands there or not -/
theorem sumU_parts {L : SL} (hr : Rising (skeys L)) (k x : ByteArray) : sumU L x = sumU (L.take (klo (skeys L) k)) x + (if hpre x (k, ⟨#[]⟩) = true then amt L k else 0) + sumU (L.drop (if (sget L k).isSome = true then klo (skeys L) k + 1 else klo (skeys L) k)) x := by
  cases hs : (sget L k).isSome with
  | false =>
    have h0 : amt L k = 0 := by
      unfold amt
      have hn : sget L k = none := by
        cases h : sget L k with
        | none => rfl
        | some _ => rw [h] at hs; cases hs
      rw [hn]
      exact fbv_nil
    rw [h0]
    simp only [Bool.false_eq_true, if_false, ite_self, Nat.add_zero]
    rw [← sumU_app, List.take_append_drop]
  | true =>
    obtain ⟨h1, h2, h3⟩ := sdel_parts k L hr hs
    simp only [if_true]
    generalize hK : klo (skeys L) k = K at *
    have hk : (L[K]).1 = k := by
      unfold skeys at h2
      rw [List.getElem?_map, List.getElem?_eq_getElem h1] at h2
      exact Option.some.inj h2
    have hv : sget L k = some (L[K]).2 := by
      have := sget_at L hr _ h1
      rwa [hk] at this
    have ha : amt L k = fbv (L[K]).2 := by unfold amt; rw [hv]; rfl
    conv => lhs; rw [← List.take_append_drop K L, List.drop_eq_getElem_cons h1]
    rw [sumU_app, show (L[K] :: L.drop (K + 1)) = [L[K]] ++ L.drop (K + 1) from rfl, sumU_app, sumU_one, ha, ← Nat.add_assoc]
    congr 3
    unfold hpre
    rw [hk]
theorem sumU_sset {L : SL} (hr : Rising (skeys L)) (k v x : ByteArray) : sumU (sset L k v) x + (if hpre x (k, ⟨#[]⟩) = true then amt L k else 0) = sumU L x + (if hpre x (k, ⟨#[]⟩) = true then fbv v else 0) := by
  rw [sumU_parts hr k x, sset_parts hr, sumU_app, sumU_app, sumU_one, hpre_key x k v ⟨#[]⟩]
  simp only
  omega
theorem sumU_sdel {L : SL} (hr : Rising (skeys L)) (k x : ByteArray) : sumU (sdel L k) x + (if hpre x (k, ⟨#[]⟩) = true then amt L k else 0) = sumU L x := by
  rw [sumU_parts hr k x, sdel_parts2 hr, sumU_app]
  omega
theorem sumU_setA {L : SL} (hr : Rising (skeys L)) (k x : ByteArray) (a : Nat) (ha : a < 2 ^ 256) : sumU (setA L k a) x + (if hpre x (k, ⟨#[]⟩) = true then amt L k else 0) = sumU L x + (if hpre x (k, ⟨#[]⟩) = true then a else 0) := by
  unfold setA
  by_cases h0 : a = 0
  · rw [if_pos h0, sumU_sdel hr, h0]
    simp
  · rw [if_neg h0]
    unfold setL
    by_cases hs : sget L k = some (amtStr a)
    · rw [if_pos hs]
      have : amt L k = a := by unfold amt; rw [hs]; exact amt_fbv a ha
      rw [this]
    · rw [if_neg hs, sumU_sset hr, amt_fbv a ha]
theorem amt_setA (L : SL) (k k' : ByteArray) (a : Nat) (ha : a < 2 ^ 256) : amt (setA L k a) k' = if k' = k then a else amt L k' := by
  unfold setA amt
  by_cases h0 : a = 0
  · rw [if_pos h0, sget_sdel]
    by_cases hk : k' = k
    · rw [if_pos hk, if_pos hk, h0]; exact fbv_nil
    · rw [if_neg hk, if_neg hk]
  · rw [if_neg h0, sget_setL]
    by_cases hk : k' = k
    · rw [if_pos hk, if_pos hk]; exact amt_fbv a ha
    · rw [if_neg hk, if_neg hk]
theorem setA_le (L : SL) (k : ByteArray) (a : Nat) : (setA L k a).length ≤ L.length + 1 := by
  unfold setA
  split
  · have : (sdel L k).length ≤ L.length := List.length_filter_le _ _
    omega
  · exact setL_len _ _ _
theorem rising_setA {L : SL} (hr : Rising (skeys L)) (k : ByteArray) (a : Nat) : Rising (skeys (setA L k a)) := by
  unfold setA
  split
  · exact rising_sdel hr
  · unfold setL
    split
    · exact hr
    · exact rising_sset hr k _
theorem sget_setA (L : SL) (k k' : ByteArray) (a : Nat) : sget (setA L k a) k' = if k' = k then (if a = 0 then none else some (amtStr a)) else sget L k' := by
  unfold setA
  by_cases h0 : a = 0
  · rw [if_pos h0, if_pos h0, sget_sdel]
  · rw [if_neg h0, if_neg h0, sget_setL]
theorem mem_setA {L : SL} {k : ByteArray} {a : Nat} {p : ByteArray × ByteArray} (hr : Rising (skeys L)) (h : p ∈ setA L k a) : p ∈ L ∨ (p = (k, amtStr a) ∧ a ≠ 0) := by
  unfold setA at h
  by_cases h0 : a = 0
  · rw [if_pos h0] at h
    exact .inl (List.mem_filter.1 h).1
  · rw [if_neg h0] at h
    unfold setL at h
    split at h
    · exact .inl h
    · rw [sset_parts hr] at h
      rcases List.mem_append.1 h with h | h
      · rcases List.mem_append.1 h with h | h
        · exact .inl (List.mem_of_mem_take h)
        · exact .inr ⟨by simpa using h, h0⟩
      · exact .inl (List.mem_of_mem_drop h)
theorem SzOk.setA {L : SL} (h : SzOk L) {k : ByteArray} {a : Nat} (hk : k.size ≤ maxLen) : SzOk (setA L k a) := by
  unfold Go.Proofs.YtnjcnlbphaodcaaGreat.setA
  split
  · exact h.sdel k
  · unfold setL
    split
    · exact h
    · exact h.sset hk (by rw [amtStr_size]; decide)
end Go.Proofs.YtnjcnlbphaodcaaGreat

namespace Go.Proofs.YtnjcnlbphaodcaaGreat
open Go.RowKit Go.Maps Go.Sort

set_option maxRecDepth 100000 in
set_option maxHeartbeats 4000000 in
theorem rmove_funds (w W : World) (m : Nat) (L : SL) (R : List Ch) (k1 k2 : ByteArray) (x a : Nat) (h : DS w W m L R) (hr : Rising (skeys L)) (hN : L.length < 900000) (he : amtAt L k1 x) (hx : x < 2 ^ 256) (ha : a < 2 ^ 256) (hlt : ¬ a ≤ x) :
    Calls Tryz.prog 24 #[.pointer (some ⟨m, 0, none⟩), .string k1, .string k2, U a] W fun e W' => e = .returned (.int .i64 13) ∧ DSTo w W W' m L R := by
  have hb0 := (Below.refl W.heap.size W).alloc (Nat.le_refl _) (.cells #[.int .u64 (limb a 0 : Nat), .int .u64 (limb a 1 : Nat), .int .u64 (limb a 2 : Nat), .int .u64 (limb a 3 : Nat)] 24)
  have r0 := heap_alloc_new W (.cells #[.int .u64 (limb a 0 : Nat), .int .u64 (limb a 1 : Nat), .int .u64 (limb a 2 : Nat), .int .u64 (limb a 3 : Nat)] 24)
  have HB0 := Lib.hid hb0
  have hA := fun (W1 : World) (hb : Below W.heap.size W W1) => ramount_at w W1 m L R k1 x (h.below hb) hr (by omega) he hx
  have hSb := fun W1 => rsub_walk x a W1 hx ha
  unfold subv subk at hSb
  rw [if_neg hlt, decide_eq_false hlt] at hSb
  have HD := Lib.hid (fun (W1 : World) (hb : Below W.heap.size W W1) => DSTo.of_below h hb)
  unfold U at hA hSb
  have HA := Lib.hid hA
  have HSb := Lib.hid hSb
  have HR0 := Lib.hid r0
  clear h hr hN he hx ha hb0 r0 hA hSb hlt
  unfold U
  go_enter Tryz.func24, Tryz.ntmps24
  go_upto_region 1 with fail
  obtain ⟨XB, hXB⟩ : ∃ XB, XB = W.heap.size := ⟨_, rfl⟩
  rw [← hXB] at HR0 ⊢
  have HBx := Lib.hid HR0.out
  have LB := Lib.hid (hp_lt HR0.out)
  clear hXB HR0
  generalize W.alloc (.cells #[.int .u64 (limb a 0 : Nat), .int .u64 (limb a 1 : Nat), .int .u64 (limb a 2 : Nat), .int .u64 (limb a 3 : Nat)] 24) = Wa at HB0 HBx LB ⊢
  go_cut [9, 10] (fun p q wx => ∃ B, p = .pointer (some ⟨B, 0, none⟩) ∧ q = .bool false ∧ wx.heap[B]? = some (.cells #[.int .u64 (limb 0 0 : Nat), .int .u64 (limb 0 1 : Nat), .int .u64 (limb 0 2 : Nat), .int .u64 (limb 0 3 : Nat)] 24 (0, 0)) ∧ Below Wa.heap.size Wa wx)
  case first =>
    refine wp_region_held_drew (S := fun w' => Below Wa.heap.size Wa w') (by kernel_rfl) ?_ (fun hHeld => ?_)
    · exact (Below.refl _ _).drew
    have HY0 := Lib.hid (show Below Wa.heap.size Wa Wa.drew from (Below.refl _ _).drew)
    generalize Wa.drew = Y0 at HY0 hHeld ⊢
    refine wpAnyH_take (i := 0) (v := ?_) rfl (by kernel_rfl) (by kernel_rfl) (by kernel_rfl) (fun _ _ _ h => h) (Or.inl ⟨by kernel_rfl, ?_⟩) (by with_reducible assumption) ?_
    rotate_left
    · intro wz hSw
      (try dsimp only at hSw)
      go_simp
      (try with_reducible rfl)
    show wpAnyH _ _ _ _ _ _ _ (Act.put _ (some 14) _) _
    (try simp only [Act.put, List.setIfInBounds_toArray, List.set_cons_zero, List.set_cons_succ])
    refine wpAnyH_take (i := 1) (v := ?_) rfl (by kernel_rfl) (by kernel_rfl) (by kernel_rfl) (fun _ _ _ h => h) (Or.inl ⟨by kernel_rfl, ?_⟩) (by with_reducible assumption) ?_
    rotate_left
    · intro wz hSw
      (try dsimp only at hSw)
      go_simp
      (try with_reducible rfl)
    show wpAnyH _ _ _ _ _ _ _ (Act.put _ (some 15) _) _
    (try simp only [Act.put, List.setIfInBounds_toArray, List.set_cons_zero, List.set_cons_succ])
    refine wpAnyH_take (i := 3) (v := .agg #[.int .u64 (limb a 0 : Nat), .int .u64 (limb a 1 : Nat), .int .u64 (limb a 2 : Nat), .int .u64 (limb a 3 : Nat)]) rfl (by kernel_rfl) (by kernel_rfl) (by kernel_rfl) (fun _ _ _ h => h) (Or.inl ⟨by kernel_rfl, ?_⟩) (by with_reducible assumption) ?_
    · intro wz hSw
      (try dsimp only at hSw)
      have z0 := (hSw.cell (p := ⟨XB, 0, none⟩) LB.out).trans ((hp_cell (i := 0) HBx.out).trans rfl)
      have z1 := (hSw.cell (p := ⟨XB, 1, none⟩) LB.out).trans ((hp_cell (i := 1) HBx.out).trans rfl)
      have z2 := (hSw.cell (p := ⟨XB, 2, none⟩) LB.out).trans ((hp_cell (i := 2) HBx.out).trans rfl)
      have z3 := (hSw.cell (p := ⟨XB, 3, none⟩) LB.out).trans ((hp_cell (i := 3) HBx.out).trans rfl)
      go_simp
      (try with_reducible rfl)
    show wpAnyH _ _ _ _ _ _ _ (Act.put _ (some 17) _) _
    (try simp only [Act.put, List.setIfInBounds_toArray, List.set_cons_zero, List.set_cons_succ])
    refine wpAnyH_ready (rs := [2, 8]) (by kernel_rfl) (by simp) ?_
    refine AllReadyH.cons rfl (fun K hK => ?_) (AllReadyH.cons rfl (fun K hK => ?_) AllReadyH.nil)
    · clear hHeld
      go_simp
      go_at_call 45
      refine (HA.out _ (HB0.out.trans (HY0.out.mono HB0.out.size))).mono ?_
      rintro e Y2 ⟨rfl, hb⟩
      have HB2 := Lib.hid (HY0.out.trans (hb.mono HY0.out.size))
      clear hb
      go_wp2_with fail
      refine hK.out _ _ ?_ (fun hHeld => ?_)
      · exact HB2.out
      clear hK K
      (try simp only [Act.put, List.setIfInBounds_toArray, List.set_cons_zero, List.set_cons_succ])
      refine wpAnyH_ready (rs := [4, 8]) (by kernel_rfl) (by simp) ?_
      refine AllReadyH.cons rfl (fun K hK => ?_) (AllReadyH.cons rfl (fun K hK => ?_) AllReadyH.nil)
      · clear hHeld
        go_simp
        go_at_call 47
        refine (HSb.out _).mono ?_
        rintro e Y4 ⟨rfl, hb⟩
        have HB4 := Lib.hid (HB2.out.trans (hb.mono HB2.out.size))
        clear hb
        go_wp2_with fail
        refine hK.out _ _ ?_ (fun hHeld => ?_)
        · exact HB4.out
        clear hK K
        (try simp only [Act.put, List.setIfInBounds_toArray, List.set_cons_zero, List.set_cons_succ])
        refine wpAnyH_take (i := 5) (v := ?_) rfl (by kernel_rfl) (by kernel_rfl) (by kernel_rfl) (fun _ _ _ h => h) (Or.inl ⟨by kernel_rfl, ?_⟩) (by with_reducible assumption) ?_
        rotate_left
        · intro wz hSw
          (try dsimp only at hSw)
          go_simp
          (try with_reducible rfl)
        show wpAnyH _ _ _ _ _ _ _ (Act.put _ (some 13) _) _
        (try simp only [Act.put, List.setIfInBounds_toArray, List.set_cons_zero, List.set_cons_succ])
        refine wpAnyH_take (i := 6) (v := ?_) rfl (by kernel_rfl) (by kernel_rfl) (by kernel_rfl) (fun _ _ _ h => h) (Or.inl ⟨by kernel_rfl, ?_⟩) (by with_reducible assumption) ?_
        rotate_left
        · intro wz hSw
          (try dsimp only at hSw)
          go_simp
          (try with_reducible rfl)
        show wpAnyH _ _ _ _ _ _ _ (Act.put _ (some 19) _) _
        (try simp only [Act.put, List.setIfInBounds_toArray, List.set_cons_zero, List.set_cons_succ])
        refine wpAnyH_take (i := 7) (v := ?_) rfl (by kernel_rfl) (by kernel_rfl) (by kernel_rfl) (fun _ _ _ h => h) (Or.inl ⟨by kernel_rfl, ?_⟩) (by with_reducible assumption) ?_
        rotate_left
        · intro wz hSw
          (try dsimp only at hSw)
          go_simp
          (try with_reducible rfl)
        show wpAnyH _ _ _ _ _ _ _ (Act.put _ (some 20) _) _
        (try simp only [Act.put, List.setIfInBounds_toArray, List.set_cons_zero, List.set_cons_succ])
        refine wpAnyH_ready (rs := [8]) (by kernel_rfl) (by simp) ?_
        refine AllReadyH.cons rfl (fun K hK => ?_) AllReadyH.nil
        clear hHeld
        go_simp
        have HB8 := Lib.hid (HB4.out.alloc HB4.out.size (.cells #[.int .u64 0, .int .u64 0, .int .u64 0, .int .u64 0] 24))
        have F_n := Lib.hid (heap_alloc_new Y4 (.cells #[.int .u64 0, .int .u64 0, .int .u64 0, .int .u64 0] 24))
        obtain ⟨X, eX⟩ : ∃ y, y = Y4.heap.size := ⟨_, rfl⟩
        go_wp2_with fail
        refine hK.out _ _ ?_ (fun hHeld => ?_)
        · exact HB8.out
        clear hK K
        (try simp only [Act.put, List.setIfInBounds_toArray, List.set_cons_zero, List.set_cons_succ])
        rw [← eX] at F_n ⊢
        have LX := Lib.hid (show Wa.heap.size ≤ X from by rw [eX]; exact HB4.out.size)
        clear eX
        generalize Y4.alloc (.cells #[.int .u64 0, .int .u64 0, .int .u64 0, .int .u64 0] 24) = Y8 at HB8 F_n hHeld ⊢
        refine wpAnyH_ready (rs := [9]) (by kernel_rfl) (by simp) ?_
        refine AllReadyH.cons rfl (fun K hK => ?_) AllReadyH.nil
        clear hHeld
        have c0 := (hp_cell (i := 0) F_n.out).trans rfl
        have g0 := hp_free (i := 0) F_n.out
        have c1 := (hp_cell (i := 1) F_n.out).trans rfl
        have g1 := hp_free (i := 1) F_n.out
        have c2 := (hp_cell (i := 2) F_n.out).trans rfl
        have g2 := hp_free (i := 2) F_n.out
        have c3 := (hp_cell (i := 3) F_n.out).trans rfl
        have g3 := hp_free (i := 3) F_n.out
        go_simp
        clear c0 c1 c2 c3 g0 g1 g2 g3
        have HB9 := Lib.hid (show Below Wa.heap.size Wa ((((Y8.setCell ⟨X, 0, none⟩ (.int .u64 (limb 0 0 : Nat))).setCell ⟨X, 1, none⟩ (.int .u64 (limb 0 1 : Nat))).setCell ⟨X, 2, none⟩ (.int .u64 (limb 0 2 : Nat))).setCell ⟨X, 3, none⟩ (.int .u64 (limb 0 3 : Nat))) from ((((HB8.out.setCell LX.out _).setCell LX.out _).setCell LX.out _).setCell LX.out _))
        have SX := Lib.hid (set4b (.int .u64 (limb 0 0 : Nat)) (.int .u64 (limb 0 1 : Nat)) (.int .u64 (limb 0 2 : Nat)) (.int .u64 (limb 0 3 : Nat)) F_n.out (rfl : ((((Y8.setCell ⟨X, 0, none⟩ (.int .u64 (limb 0 0 : Nat))).setCell ⟨X, 1, none⟩ (.int .u64 (limb 0 1 : Nat))).setCell ⟨X, 2, none⟩ (.int .u64 (limb 0 2 : Nat))).setCell ⟨X, 3, none⟩ (.int .u64 (limb 0 3 : Nat))) = _))
        go_wp2_with fail
        refine hK.out _ _ ?_ (fun hHeld => ?_)
        · exact HB9.out
        clear hK K
        (try simp only [Act.put, List.setIfInBounds_toArray, List.set_cons_zero, List.set_cons_succ])
        generalize (((Y8.setCell ⟨X, 0, none⟩ (.int .u64 (limb 0 0 : Nat))).setCell ⟨X, 1, none⟩ (.int .u64 (limb 0 1 : Nat))).setCell ⟨X, 2, none⟩ (.int .u64 (limb 0 2 : Nat))).setCell ⟨X, 3, none⟩ (.int .u64 (limb 0 3 : Nat)) = Y9 at HB9 SX hHeld ⊢
        refine wpAnyH_take (i := 10) (v := ?_) rfl (by kernel_rfl) (by kernel_rfl) (by kernel_rfl) (fun _ _ _ h => h) (Or.inl ⟨by kernel_rfl, ?_⟩) (by with_reducible assumption) ?_
        rotate_left
        · intro wz hSw
          (try dsimp only at hSw)
          go_simp
          (try with_reducible rfl)
        show wpAnyH _ _ _ _ _ _ _ (Act.put _ (some 10) _) _
        (try simp only [Act.put, List.setIfInBounds_toArray, List.set_cons_zero, List.set_cons_succ])
        refine wpAnyH_done (by kernel_rfl) ?_ _
        go_wp2_with fail
        go_meet
        case rel => exact ⟨X, rfl, rfl, SX.out, HB9.out⟩
      · clear hHeld
        go_simp
        have HB8 := Lib.hid (HB2.out.alloc HB2.out.size (.cells #[.int .u64 0, .int .u64 0, .int .u64 0, .int .u64 0] 24))
        have F_n := Lib.hid (heap_alloc_new Y2 (.cells #[.int .u64 0, .int .u64 0, .int .u64 0, .int .u64 0] 24))
        obtain ⟨X, eX⟩ : ∃ y, y = Y2.heap.size := ⟨_, rfl⟩
        go_wp2_with fail
        refine hK.out _ _ ?_ (fun hHeld => ?_)
        · exact HB8.out
        clear hK K
        (try simp only [Act.put, List.setIfInBounds_toArray, List.set_cons_zero, List.set_cons_succ])
        rw [← eX] at F_n ⊢
        have LX := Lib.hid (show Wa.heap.size ≤ X from by rw [eX]; exact HB2.out.size)
        clear eX
        generalize Y2.alloc (.cells #[.int .u64 0, .int .u64 0, .int .u64 0, .int .u64 0] 24) = Y8 at HB8 F_n hHeld ⊢
        refine wpAnyH_ready (rs := [4]) (by kernel_rfl) (by simp) ?_
        refine AllReadyH.cons rfl (fun K hK => ?_) AllReadyH.nil
        clear hHeld
        go_simp
        go_at_call 47
        refine (HSb.out _).mono ?_
        rintro e Y4 ⟨rfl, hb⟩
        have HB4 := Lib.hid (HB8.out.trans (hb.mono HB8.out.size))
        have F_4 := Lib.hid ((hb.block _ (hp_lt F_n.out)).trans F_n.out)
        clear hb
        go_wp2_with fail
        refine hK.out _ _ ?_ (fun hHeld => ?_)
        · exact HB4.out
        clear hK K
        (try simp only [Act.put, List.setIfInBounds_toArray, List.set_cons_zero, List.set_cons_succ])
        refine wpAnyH_take (i := 5) (v := ?_) rfl (by kernel_rfl) (by kernel_rfl) (by kernel_rfl) (fun _ _ _ h => h) (Or.inl ⟨by kernel_rfl, ?_⟩) (by with_reducible assumption) ?_
        rotate_left
        · intro wz hSw
          (try dsimp only at hSw)
          go_simp
          (try with_reducible rfl)
        show wpAnyH _ _ _ _ _ _ _ (Act.put _ (some 13) _) _
        (try simp only [Act.put, List.setIfInBounds_toArray, List.set_cons_zero, List.set_cons_succ])
        refine wpAnyH_take (i := 6) (v := ?_) rfl (by kernel_rfl) (by kernel_rfl) (by kernel_rfl) (fun _ _ _ h => h) (Or.inl ⟨by kernel_rfl, ?_⟩) (by with_reducible assumption) ?_
        rotate_left
        · intro wz hSw
          (try dsimp only at hSw)
          go_simp
          (try with_reducible rfl)
        show wpAnyH _ _ _ _ _ _ _ (Act.put _ (some 19) _) _
        (try simp only [Act.put, List.setIfInBounds_toArray, List.set_cons_zero, List.set_cons_succ])
        refine wpAnyH_take (i := 7) (v := ?_) rfl (by kernel_rfl) (by kernel_rfl) (by kernel_rfl) (fun _ _ _ h => h) (Or.inl ⟨by kernel_rfl, ?_⟩) (by with_reducible assumption) ?_
        rotate_left
        · intro wz hSw
          (try dsimp only at hSw)
          go_simp
          (try with_reducible rfl)
        show wpAnyH _ _ _ _ _ _ _ (Act.put _ (some 20) _) _
        (try simp only [Act.put, List.setIfInBounds_toArray, List.set_cons_zero, List.set_cons_succ])
        refine wpAnyH_ready (rs := [9]) (by kernel_rfl) (by simp) ?_
        refine AllReadyH.cons rfl (fun K hK => ?_) AllReadyH.nil
        clear hHeld
        have c0 := (hp_cell (i := 0) F_4.out).trans rfl
        have g0 := hp_free (i := 0) F_4.out
        have c1 := (hp_cell (i := 1) F_4.out).trans rfl
        have g1 := hp_free (i := 1) F_4.out
        have c2 := (hp_cell (i := 2) F_4.out).trans rfl
        have g2 := hp_free (i := 2) F_4.out
        have c3 := (hp_cell (i := 3) F_4.out).trans rfl
        have g3 := hp_free (i := 3) F_4.out
        go_simp
        clear c0 c1 c2 c3 g0 g1 g2 g3
        have HB9 := Lib.hid (show Below Wa.heap.size Wa ((((Y4.setCell ⟨X, 0, none⟩ (.int .u64 (limb 0 0 : Nat))).setCell ⟨X, 1, none⟩ (.int .u64 (limb 0 1 : Nat))).setCell ⟨X, 2, none⟩ (.int .u64 (limb 0 2 : Nat))).setCell ⟨X, 3, none⟩ (.int .u64 (limb 0 3 : Nat))) from ((((HB4.out.setCell LX.out _).setCell LX.out _).setCell LX.out _).setCell LX.out _))
        have SX := Lib.hid (set4b (.int .u64 (limb 0 0 : Nat)) (.int .u64 (limb 0 1 : Nat)) (.int .u64 (limb 0 2 : Nat)) (.int .u64 (limb 0 3 : Nat)) F_4.out (rfl : ((((Y4.setCell ⟨X, 0, none⟩ (.int .u64 (limb 0 0 : Nat))).setCell ⟨X, 1, none⟩ (.int .u64 (limb 0 1 : Nat))).setCell ⟨X, 2, none⟩ (.int .u64 (limb 0 2 : Nat))).setCell ⟨X, 3, none⟩ (.int .u64 (limb 0 3 : Nat))) = _))
        go_wp2_with fail
        refine hK.out _ _ ?_ (fun hHeld => ?_)
        · exact HB9.out
        clear hK K
        (try simp only [Act.put, List.setIfInBounds_toArray, List.set_cons_zero, List.set_cons_succ])
        generalize (((Y4.setCell ⟨X, 0, none⟩ (.int .u64 (limb 0 0 : Nat))).setCell ⟨X, 1, none⟩ (.int .u64 (limb 0 1 : Nat))).setCell ⟨X, 2, none⟩ (.int .u64 (limb 0 2 : Nat))).setCell ⟨X, 3, none⟩ (.int .u64 (limb 0 3 : Nat)) = Y9 at HB9 SX hHeld ⊢
        refine wpAnyH_take (i := 10) (v := ?_) rfl (by kernel_rfl) (by kernel_rfl) (by kernel_rfl) (fun _ _ _ h => h) (Or.inl ⟨by kernel_rfl, ?_⟩) (by with_reducible assumption) ?_
        rotate_left
        · intro wz hSw
          (try dsimp only at hSw)
          go_simp
          (try with_reducible rfl)
        show wpAnyH _ _ _ _ _ _ _ (Act.put _ (some 10) _) _
        (try simp only [Act.put, List.setIfInBounds_toArray, List.set_cons_zero, List.set_cons_succ])
        refine wpAnyH_done (by kernel_rfl) ?_ _
        go_wp2_with fail
        go_meet
        case rel => exact ⟨X, rfl, rfl, SX.out, HB9.out⟩
    · clear hHeld
      go_simp
      have HB8 := Lib.hid (HY0.out.alloc HY0.out.size (.cells #[.int .u64 0, .int .u64 0, .int .u64 0, .int .u64 0] 24))
      have F_n := Lib.hid (heap_alloc_new Y0 (.cells #[.int .u64 0, .int .u64 0, .int .u64 0, .int .u64 0] 24))
      obtain ⟨X, eX⟩ : ∃ y, y = Y0.heap.size := ⟨_, rfl⟩
      go_wp2_with fail
      refine hK.out _ _ ?_ (fun hHeld => ?_)
      · exact HB8.out
      clear hK K
      (try simp only [Act.put, List.setIfInBounds_toArray, List.set_cons_zero, List.set_cons_succ])
      rw [← eX] at F_n ⊢
      have LX := Lib.hid (show Wa.heap.size ≤ X from by rw [eX]; exact HY0.out.size)
      clear eX
      generalize Y0.alloc (.cells #[.int .u64 0, .int .u64 0, .int .u64 0, .int .u64 0] 24) = Y8 at HB8 F_n hHeld ⊢
      refine wpAnyH_ready (rs := [2]) (by kernel_rfl) (by simp) ?_
      refine AllReadyH.cons rfl (fun K hK => ?_) AllReadyH.nil
      clear hHeld
      go_simp
      go_at_call 45
      refine (HA.out _ (HB0.out.trans (HB8.out.mono HB0.out.size))).mono ?_
      rintro e Y2 ⟨rfl, hb⟩
      have HB2 := Lib.hid (HB8.out.trans (hb.mono HB8.out.size))
      have F_2 := Lib.hid ((hb.block _ (hp_lt F_n.out)).trans F_n.out)
      clear hb
      go_wp2_with fail
      refine hK.out _ _ ?_ (fun hHeld => ?_)
      · exact HB2.out
      clear hK K
      (try simp only [Act.put, List.setIfInBounds_toArray, List.set_cons_zero, List.set_cons_succ])
      refine wpAnyH_ready (rs := [4]) (by kernel_rfl) (by simp) ?_
      refine AllReadyH.cons rfl (fun K hK => ?_) AllReadyH.nil
      clear hHeld
      go_simp
      go_at_call 47
      refine (HSb.out _).mono ?_
      rintro e Y4 ⟨rfl, hb⟩
      have HB4 := Lib.hid (HB2.out.trans (hb.mono HB2.out.size))
      have F_4 := Lib.hid ((hb.block _ (hp_lt F_2.out)).trans F_2.out)
      clear hb
      go_wp2_with fail
      refine hK.out _ _ ?_ (fun hHeld => ?_)
      · exact HB4.out
      clear hK K
      (try simp only [Act.put, List.setIfInBounds_toArray, List.set_cons_zero, List.set_cons_succ])
      refine wpAnyH_take (i := 5) (v := ?_) rfl (by kernel_rfl) (by kernel_rfl) (by kernel_rfl) (fun _ _ _ h => h) (Or.inl ⟨by kernel_rfl, ?_⟩) (by with_reducible assumption) ?_
      rotate_left
      · intro wz hSw
        (try dsimp only at hSw)
        go_simp
        (try with_reducible rfl)
      show wpAnyH _ _ _ _ _ _ _ (Act.put _ (some 13) _) _
      (try simp only [Act.put, List.setIfInBounds_toArray, List.set_cons_zero, List.set_cons_succ])
      refine wpAnyH_take (i := 6) (v := ?_) rfl (by kernel_rfl) (by kernel_rfl) (by kernel_rfl) (fun _ _ _ h => h) (Or.inl ⟨by kernel_rfl, ?_⟩) (by with_reducible assumption) ?_
      rotate_left
      · intro wz hSw
        (try dsimp only at hSw)
        go_simp
        (try with_reducible rfl)
      show wpAnyH _ _ _ _ _ _ _ (Act.put _ (some 19) _) _
      (try simp only [Act.put, List.setIfInBounds_toArray, List.set_cons_zero, List.set_cons_succ])
      refine wpAnyH_take (i := 7) (v := ?_) rfl (by kernel_rfl) (by kernel_rfl) (by kernel_rfl) (fun _ _ _ h => h) (Or.inl ⟨by kernel_rfl, ?_⟩) (by with_reducible assumption) ?_
      rotate_left
      · intro wz hSw
        (try dsimp only at hSw)
        go_simp
        (try with_reducible rfl)
      show wpAnyH _ _ _ _ _ _ _ (Act.put _ (some 20) _) _
      (try simp only [Act.put, List.setIfInBounds_toArray, List.set_cons_zero, List.set_cons_succ])
      refine wpAnyH_ready (rs := [9]) (by kernel_rfl) (by simp) ?_
      refine AllReadyH.cons rfl (fun K hK => ?_) AllReadyH.nil
      clear hHeld
      have c0 := (hp_cell (i := 0) F_4.out).trans rfl
      have g0 := hp_free (i := 0) F_4.out
      have c1 := (hp_cell (i := 1) F_4.out).trans rfl
      have g1 := hp_free (i := 1) F_4.out
      have c2 := (hp_cell (i := 2) F_4.out).trans rfl
      have g2 := hp_free (i := 2) F_4.out
      have c3 := (hp_cell (i := 3) F_4.out).trans rfl
      have g3 := hp_free (i := 3) F_4.out
      go_simp
      clear c0 c1 c2 c3 g0 g1 g2 g3
      have HB9 := Lib.hid (show Below Wa.heap.size Wa ((((Y4.setCell ⟨X, 0, none⟩ (.int .u64 (limb 0 0 : Nat))).setCell ⟨X, 1, none⟩ (.int .u64 (limb 0 1 : Nat))).setCell ⟨X, 2, none⟩ (.int .u64 (limb 0 2 : Nat))).setCell ⟨X, 3, none⟩ (.int .u64 (limb 0 3 : Nat))) from ((((HB4.out.setCell LX.out _).setCell LX.out _).setCell LX.out _).setCell LX.out _))
      have SX := Lib.hid (set4b (.int .u64 (limb 0 0 : Nat)) (.int .u64 (limb 0 1 : Nat)) (.int .u64 (limb 0 2 : Nat)) (.int .u64 (limb 0 3 : Nat)) F_4.out (rfl : ((((Y4.setCell ⟨X, 0, none⟩ (.int .u64 (limb 0 0 : Nat))).setCell ⟨X, 1, none⟩ (.int .u64 (limb 0 1 : Nat))).setCell ⟨X, 2, none⟩ (.int .u64 (limb 0 2 : Nat))).setCell ⟨X, 3, none⟩ (.int .u64 (limb 0 3 : Nat))) = _))
      go_wp2_with fail
      refine hK.out _ _ ?_ (fun hHeld => ?_)
      · exact HB9.out
      clear hK K
      (try simp only [Act.put, List.setIfInBounds_toArray, List.set_cons_zero, List.set_cons_succ])
      generalize (((Y4.setCell ⟨X, 0, none⟩ (.int .u64 (limb 0 0 : Nat))).setCell ⟨X, 1, none⟩ (.int .u64 (limb 0 1 : Nat))).setCell ⟨X, 2, none⟩ (.int .u64 (limb 0 2 : Nat))).setCell ⟨X, 3, none⟩ (.int .u64 (limb 0 3 : Nat)) = Y9 at HB9 SX hHeld ⊢
      refine wpAnyH_take (i := 10) (v := ?_) rfl (by kernel_rfl) (by kernel_rfl) (by kernel_rfl) (fun _ _ _ h => h) (Or.inl ⟨by kernel_rfl, ?_⟩) (by with_reducible assumption) ?_
      rotate_left
      · intro wz hSw
        (try dsimp only at hSw)
        go_simp
        (try with_reducible rfl)
      show wpAnyH _ _ _ _ _ _ _ (Act.put _ (some 10) _) _
      (try simp only [Act.put, List.setIfInBounds_toArray, List.set_cons_zero, List.set_cons_succ])
      refine wpAnyH_done (by kernel_rfl) ?_ _
      go_wp2_with fail
      go_meet
      case rel => exact ⟨X, rfl, rfl, SX.out, HB9.out⟩
  case rest =>
    obtain ⟨B1, rfl, rfl, hB1, hbc⟩ := hcut
    obtain ⟨Wb, hWb⟩ : ∃ Wb, Wb = wc := ⟨_, rfl⟩
    subst hWb
    have HBc := Lib.hid (HB0.out.trans (hbc.mono HB0.out.size))
    clear hB1 hbc
    go_wp2
    go_ret
    exact ⟨rfl, HD.out _ HBc.out⟩
set_option maxRecDepth 100000 in
set_option maxHeartbeats 4000000 in
theorem rmove_same (w W : World) (m : Nat) (L : SL) (R : List Ch) (k1 k2 : ByteArray) (x a : Nat) (h : DS w W m L R) (hr : Rising (skeys L)) (hN : L.length < 900000) (he : amtAt L k1 x) (hx : x < 2 ^ 256) (ha : a < 2 ^ 256) (hlt : a ≤ x) (hk : k1 = k2) :
    Calls Tryz.prog 24 #[.pointer (some ⟨m, 0, none⟩), .string k1, .string k2, U a] W fun e W' => e = .returned (.int .i64 0) ∧ DSTo w W W' m L R := by
  have hb0 := (Below.refl W.heap.size W).alloc (Nat.le_refl _) (.cells #[.int .u64 (limb a 0 : Nat), .int .u64 (limb a 1 : Nat), .int .u64 (limb a 2 : Nat), .int .u64 (limb a 3 : Nat)] 24)
  have r0 := heap_alloc_new W (.cells #[.int .u64 (limb a 0 : Nat), .int .u64 (limb a 1 : Nat), .int .u64 (limb a 2 : Nat), .int .u64 (limb a 3 : Nat)] 24)
  have HB0 := Lib.hid hb0
  have hA := fun (W1 : World) (hb : Below W.heap.size W W1) => ramount_at w W1 m L R k1 x (h.below hb) hr (by omega) he hx
  have hSb := fun W1 => rsub_walk x a W1 hx ha
  unfold subv subk at hSb
  rw [if_pos hlt, decide_eq_true hlt] at hSb
  have HD := Lib.hid (fun (W1 : World) (hb : Below W.heap.size W W1) => DSTo.of_below h hb)
  have q1 : (k1.toList == k2.toList) = true := by rw [hk]; exact beq_self_eq_true _
  obtain ⟨s, hs⟩ : ∃ s, s = x - a := ⟨_, rfl⟩
  rw [← hs] at hSb
  unfold U at hA hSb
  have HA := Lib.hid hA
  have HSb := Lib.hid hSb
  have HR0 := Lib.hid r0
  clear h hr hN he hx ha hb0 r0 hA hSb hlt hk hs
  unfold U
  go_enter Tryz.func24, Tryz.ntmps24
  go_upto_region 1 with fail
  obtain ⟨XB, hXB⟩ : ∃ XB, XB = W.heap.size := ⟨_, rfl⟩
  rw [← hXB] at HR0 ⊢
  have HBx := Lib.hid HR0.out
  have LB := Lib.hid (hp_lt HR0.out)
  clear hXB HR0
  generalize W.alloc (.cells #[.int .u64 (limb a 0 : Nat), .int .u64 (limb a 1 : Nat), .int .u64 (limb a 2 : Nat), .int .u64 (limb a 3 : Nat)] 24) = Wa at HB0 HBx LB ⊢
  go_cut [9, 10] (fun p q wx => ∃ B, p = .pointer (some ⟨B, 0, none⟩) ∧ q = .bool true ∧ wx.heap[B]? = some (.cells #[.int .u64 (limb s 0 : Nat), .int .u64 (limb s 1 : Nat), .int .u64 (limb s 2 : Nat), .int .u64 (limb s 3 : Nat)] 24 (0, 0)) ∧ Below Wa.heap.size Wa wx)
  case first =>
    refine wp_region_held_drew (S := fun w' => Below Wa.heap.size Wa w') (by kernel_rfl) ?_ (fun hHeld => ?_)
    · exact (Below.refl _ _).drew
    have HY0 := Lib.hid (show Below Wa.heap.size Wa Wa.drew from (Below.refl _ _).drew)
    generalize Wa.drew = Y0 at HY0 hHeld ⊢
    refine wpAnyH_take (i := 0) (v := ?_) rfl (by kernel_rfl) (by kernel_rfl) (by kernel_rfl) (fun _ _ _ h => h) (Or.inl ⟨by kernel_rfl, ?_⟩) (by with_reducible assumption) ?_
    rotate_left
    · intro wz hSw
      (try dsimp only at hSw)
      go_simp
      (try with_reducible rfl)
    show wpAnyH _ _ _ _ _ _ _ (Act.put _ (some 14) _) _
    (try simp only [Act.put, List.setIfInBounds_toArray, List.set_cons_zero, List.set_cons_succ])
    refine wpAnyH_take (i := 1) (v := ?_) rfl (by kernel_rfl) (by kernel_rfl) (by kernel_rfl) (fun _ _ _ h => h) (Or.inl ⟨by kernel_rfl, ?_⟩) (by with_reducible assumption) ?_
    rotate_left
    · intro wz hSw
      (try dsimp only at hSw)
      go_simp
      (try with_reducible rfl)
    show wpAnyH _ _ _ _ _ _ _ (Act.put _ (some 15) _) _
    (try simp only [Act.put, List.setIfInBounds_toArray, List.set_cons_zero, List.set_cons_succ])
    refine wpAnyH_take (i := 3) (v := .agg #[.int .u64 (limb a 0 : Nat), .int .u64 (limb a 1 : Nat), .int .u64 (limb a 2 : Nat), .int .u64 (limb a 3 : Nat)]) rfl (by kernel_rfl) (by kernel_rfl) (by kernel_rfl) (fun _ _ _ h => h) (Or.inl ⟨by kernel_rfl, ?_⟩) (by with_reducible assumption) ?_
    · intro wz hSw
      (try dsimp only at hSw)
      have z0 := (hSw.cell (p := ⟨XB, 0, none⟩) LB.out).trans ((hp_cell (i := 0) HBx.out).trans rfl)
      have z1 := (hSw.cell (p := ⟨XB, 1, none⟩) LB.out).trans ((hp_cell (i := 1) HBx.out).trans rfl)
      have z2 := (hSw.cell (p := ⟨XB, 2, none⟩) LB.out).trans ((hp_cell (i := 2) HBx.out).trans rfl)
      have z3 := (hSw.cell (p := ⟨XB, 3, none⟩) LB.out).trans ((hp_cell (i := 3) HBx.out).trans rfl)
      go_simp
      (try with_reducible rfl)
    show wpAnyH _ _ _ _ _ _ _ (Act.put _ (some 17) _) _
    (try simp only [Act.put, List.setIfInBounds_toArray, List.set_cons_zero, List.set_cons_succ])
    refine wpAnyH_ready (rs := [2, 8]) (by kernel_rfl) (by simp) ?_
    refine AllReadyH.cons rfl (fun K hK => ?_) (AllReadyH.cons rfl (fun K hK => ?_) AllReadyH.nil)
    · clear hHeld
      go_simp
      go_at_call 45
      refine (HA.out _ (HB0.out.trans (HY0.out.mono HB0.out.size))).mono ?_
      rintro e Y2 ⟨rfl, hb⟩
      have HB2 := Lib.hid (HY0.out.trans (hb.mono HY0.out.size))
      clear hb
      go_wp2_with fail
      refine hK.out _ _ ?_ (fun hHeld => ?_)
      · exact HB2.out
      clear hK K
      (try simp only [Act.put, List.setIfInBounds_toArray, List.set_cons_zero, List.set_cons_succ])
      refine wpAnyH_ready (rs := [4, 8]) (by kernel_rfl) (by simp) ?_
      refine AllReadyH.cons rfl (fun K hK => ?_) (AllReadyH.cons rfl (fun K hK => ?_) AllReadyH.nil)
      · clear hHeld
        go_simp
        go_at_call 47
        refine (HSb.out _).mono ?_
        rintro e Y4 ⟨rfl, hb⟩
        have HB4 := Lib.hid (HB2.out.trans (hb.mono HB2.out.size))
        clear hb
        go_wp2_with fail
        refine hK.out _ _ ?_ (fun hHeld => ?_)
        · exact HB4.out
        clear hK K
        (try simp only [Act.put, List.setIfInBounds_toArray, List.set_cons_zero, List.set_cons_succ])
        refine wpAnyH_take (i := 5) (v := ?_) rfl (by kernel_rfl) (by kernel_rfl) (by kernel_rfl) (fun _ _ _ h => h) (Or.inl ⟨by kernel_rfl, ?_⟩) (by with_reducible assumption) ?_
        rotate_left
        · intro wz hSw
          (try dsimp only at hSw)
          go_simp
          (try with_reducible rfl)
        show wpAnyH _ _ _ _ _ _ _ (Act.put _ (some 13) _) _
        (try simp only [Act.put, List.setIfInBounds_toArray, List.set_cons_zero, List.set_cons_succ])
        refine wpAnyH_take (i := 6) (v := ?_) rfl (by kernel_rfl) (by kernel_rfl) (by kernel_rfl) (fun _ _ _ h => h) (Or.inl ⟨by kernel_rfl, ?_⟩) (by with_reducible assumption) ?_
        rotate_left
        · intro wz hSw
          (try dsimp only at hSw)
          go_simp
          (try with_reducible rfl)
        show wpAnyH _ _ _ _ _ _ _ (Act.put _ (some 19) _) _
        (try simp only [Act.put, List.setIfInBounds_toArray, List.set_cons_zero, List.set_cons_succ])
        refine wpAnyH_take (i := 7) (v := ?_) rfl (by kernel_rfl) (by kernel_rfl) (by kernel_rfl) (fun _ _ _ h => h) (Or.inl ⟨by kernel_rfl, ?_⟩) (by with_reducible assumption) ?_
        rotate_left
        · intro wz hSw
          (try dsimp only at hSw)
          go_simp
          (try with_reducible rfl)
        show wpAnyH _ _ _ _ _ _ _ (Act.put _ (some 20) _) _
        (try simp only [Act.put, List.setIfInBounds_toArray, List.set_cons_zero, List.set_cons_succ])
        refine wpAnyH_ready (rs := [8]) (by kernel_rfl) (by simp) ?_
        refine AllReadyH.cons rfl (fun K hK => ?_) AllReadyH.nil
        clear hHeld
        go_simp
        have HB8 := Lib.hid (HB4.out.alloc HB4.out.size (.cells #[.int .u64 0, .int .u64 0, .int .u64 0, .int .u64 0] 24))
        have F_n := Lib.hid (heap_alloc_new Y4 (.cells #[.int .u64 0, .int .u64 0, .int .u64 0, .int .u64 0] 24))
        obtain ⟨X, eX⟩ : ∃ y, y = Y4.heap.size := ⟨_, rfl⟩
        go_wp2_with fail
        refine hK.out _ _ ?_ (fun hHeld => ?_)
        · exact HB8.out
        clear hK K
        (try simp only [Act.put, List.setIfInBounds_toArray, List.set_cons_zero, List.set_cons_succ])
        rw [← eX] at F_n ⊢
        have LX := Lib.hid (show Wa.heap.size ≤ X from by rw [eX]; exact HB4.out.size)
        clear eX
        generalize Y4.alloc (.cells #[.int .u64 0, .int .u64 0, .int .u64 0, .int .u64 0] 24) = Y8 at HB8 F_n hHeld ⊢
        refine wpAnyH_ready (rs := [9]) (by kernel_rfl) (by simp) ?_
        refine AllReadyH.cons rfl (fun K hK => ?_) AllReadyH.nil
        clear hHeld
        have c0 := (hp_cell (i := 0) F_n.out).trans rfl
        have g0 := hp_free (i := 0) F_n.out
        have c1 := (hp_cell (i := 1) F_n.out).trans rfl
        have g1 := hp_free (i := 1) F_n.out
        have c2 := (hp_cell (i := 2) F_n.out).trans rfl
        have g2 := hp_free (i := 2) F_n.out
        have c3 := (hp_cell (i := 3) F_n.out).trans rfl
        have g3 := hp_free (i := 3) F_n.out
        go_simp
        clear c0 c1 c2 c3 g0 g1 g2 g3
        have HB9 := Lib.hid (show Below Wa.heap.size Wa ((((Y8.setCell ⟨X, 0, none⟩ (.int .u64 (limb s 0 : Nat))).setCell ⟨X, 1, none⟩ (.int .u64 (limb s 1 : Nat))).setCell ⟨X, 2, none⟩ (.int .u64 (limb s 2 : Nat))).setCell ⟨X, 3, none⟩ (.int .u64 (limb s 3 : Nat))) from ((((HB8.out.setCell LX.out _).setCell LX.out _).setCell LX.out _).setCell LX.out _))
        have SX := Lib.hid (set4b (.int .u64 (limb s 0 : Nat)) (.int .u64 (limb s 1 : Nat)) (.int .u64 (limb s 2 : Nat)) (.int .u64 (limb s 3 : Nat)) F_n.out (rfl : ((((Y8.setCell ⟨X, 0, none⟩ (.int .u64 (limb s 0 : Nat))).setCell ⟨X, 1, none⟩ (.int .u64 (limb s 1 : Nat))).setCell ⟨X, 2, none⟩ (.int .u64 (limb s 2 : Nat))).setCell ⟨X, 3, none⟩ (.int .u64 (limb s 3 : Nat))) = _))
        go_wp2_with fail
        refine hK.out _ _ ?_ (fun hHeld => ?_)
        · exact HB9.out
        clear hK K
        (try simp only [Act.put, List.setIfInBounds_toArray, List.set_cons_zero, List.set_cons_succ])
        generalize (((Y8.setCell ⟨X, 0, none⟩ (.int .u64 (limb s 0 : Nat))).setCell ⟨X, 1, none⟩ (.int .u64 (limb s 1 : Nat))).setCell ⟨X, 2, none⟩ (.int .u64 (limb s 2 : Nat))).setCell ⟨X, 3, none⟩ (.int .u64 (limb s 3 : Nat)) = Y9 at HB9 SX hHeld ⊢
        refine wpAnyH_take (i := 10) (v := ?_) rfl (by kernel_rfl) (by kernel_rfl) (by kernel_rfl) (fun _ _ _ h => h) (Or.inl ⟨by kernel_rfl, ?_⟩) (by with_reducible assumption) ?_
        rotate_left
        · intro wz hSw
          (try dsimp only at hSw)
          go_simp
          (try with_reducible rfl)
        show wpAnyH _ _ _ _ _ _ _ (Act.put _ (some 10) _) _
        (try simp only [Act.put, List.setIfInBounds_toArray, List.set_cons_zero, List.set_cons_succ])
        refine wpAnyH_done (by kernel_rfl) ?_ _
        go_wp2_with fail
        go_meet
        case rel => exact ⟨X, rfl, rfl, SX.out, HB9.out⟩
      · clear hHeld
        go_simp
        have HB8 := Lib.hid (HB2.out.alloc HB2.out.size (.cells #[.int .u64 0, .int .u64 0, .int .u64 0, .int .u64 0] 24))
        have F_n := Lib.hid (heap_alloc_new Y2 (.cells #[.int .u64 0, .int .u64 0, .int .u64 0, .int .u64 0] 24))
        obtain ⟨X, eX⟩ : ∃ y, y = Y2.heap.size := ⟨_, rfl⟩
        go_wp2_with fail
        refine hK.out _ _ ?_ (fun hHeld => ?_)
        · exact HB8.out
        clear hK K
        (try simp only [Act.put, List.setIfInBounds_toArray, List.set_cons_zero, List.set_cons_succ])
        rw [← eX] at F_n ⊢
        have LX := Lib.hid (show Wa.heap.size ≤ X from by rw [eX]; exact HB2.out.size)
        clear eX
        generalize Y2.alloc (.cells #[.int .u64 0, .int .u64 0, .int .u64 0, .int .u64 0] 24) = Y8 at HB8 F_n hHeld ⊢
        refine wpAnyH_ready (rs := [4]) (by kernel_rfl) (by simp) ?_
        refine AllReadyH.cons rfl (fun K hK => ?_) AllReadyH.nil
        clear hHeld
        go_simp
        go_at_call 47
        refine (HSb.out _).mono ?_
        rintro e Y4 ⟨rfl, hb⟩
        have HB4 := Lib.hid (HB8.out.trans (hb.mono HB8.out.size))
        have F_4 := Lib.hid ((hb.block _ (hp_lt F_n.out)).trans F_n.out)
        clear hb
        go_wp2_with fail
        refine hK.out _ _ ?_ (fun hHeld => ?_)
        · exact HB4.out
        clear hK K
        (try simp only [Act.put, List.setIfInBounds_toArray, List.set_cons_zero, List.set_cons_succ])
        refine wpAnyH_take (i := 5) (v := ?_) rfl (by kernel_rfl) (by kernel_rfl) (by kernel_rfl) (fun _ _ _ h => h) (Or.inl ⟨by kernel_rfl, ?_⟩) (by with_reducible assumption) ?_
        rotate_left
        · intro wz hSw
          (try dsimp only at hSw)
          go_simp
          (try with_reducible rfl)
        show wpAnyH _ _ _ _ _ _ _ (Act.put _ (some 13) _) _
        (try simp only [Act.put, List.setIfInBounds_toArray, List.set_cons_zero, List.set_cons_succ])
        refine wpAnyH_take (i := 6) (v := ?_) rfl (by kernel_rfl) (by kernel_rfl) (by kernel_rfl) (fun _ _ _ h => h) (Or.inl ⟨by kernel_rfl, ?_⟩) (by with_reducible assumption) ?_
        rotate_left
        · intro wz hSw
          (try dsimp only at hSw)
          go_simp
          (try with_reducible rfl)
        show wpAnyH _ _ _ _ _ _ _ (Act.put _ (some 19) _) _
        (try simp only [Act.put, List.setIfInBounds_toArray, List.set_cons_zero, List.set_cons_succ])
        refine wpAnyH_take (i := 7) (v := ?_) rfl (by kernel_rfl) (by kernel_rfl) (by kernel_rfl) (fun _ _ _ h => h) (Or.inl ⟨by kernel_rfl, ?_⟩) (by with_reducible assumption) ?_
        rotate_left
        · intro wz hSw
          (try dsimp only at hSw)
          go_simp
          (try with_reducible rfl)
        show wpAnyH _ _ _ _ _ _ _ (Act.put _ (some 20) _) _
        (try simp only [Act.put, List.setIfInBounds_toArray, List.set_cons_zero, List.set_cons_succ])
        refine wpAnyH_ready (rs := [9]) (by kernel_rfl) (by simp) ?_
        refine AllReadyH.cons rfl (fun K hK => ?_) AllReadyH.nil
        clear hHeld
        have c0 := (hp_cell (i := 0) F_4.out).trans rfl
        have g0 := hp_free (i := 0) F_4.out
        have c1 := (hp_cell (i := 1) F_4.out).trans rfl
        have g1 := hp_free (i := 1) F_4.out
        have c2 := (hp_cell (i := 2) F_4.out).trans rfl
        have g2 := hp_free (i := 2) F_4.out
        have c3 := (hp_cell (i := 3) F_4.out).trans rfl
        have g3 := hp_free (i := 3) F_4.out
        go_simp
        clear c0 c1 c2 c3 g0 g1 g2 g3
        have HB9 := Lib.hid (show Below Wa.heap.size Wa ((((Y4.setCell ⟨X, 0, none⟩ (.int .u64 (limb s 0 : Nat))).setCell ⟨X, 1, none⟩ (.int .u64 (limb s 1 : Nat))).setCell ⟨X, 2, none⟩ (.int .u64 (limb s 2 : Nat))).setCell ⟨X, 3, none⟩ (.int .u64 (limb s 3 : Nat))) from ((((HB4.out.setCell LX.out _).setCell LX.out _).setCell LX.out _).setCell LX.out _))
        have SX := Lib.hid (set4b (.int .u64 (limb s 0 : Nat)) (.int .u64 (limb s 1 : Nat)) (.int .u64 (limb s 2 : Nat)) (.int .u64 (limb s 3 : Nat)) F_4.out (rfl : ((((Y4.setCell ⟨X, 0, none⟩ (.int .u64 (limb s 0 : Nat))).setCell ⟨X, 1, none⟩ (.int .u64 (limb s 1 : Nat))).setCell ⟨X, 2, none⟩ (.int .u64 (limb s 2 : Nat))).setCell ⟨X, 3, none⟩ (.int .u64 (limb s 3 : Nat))) = _))
        go_wp2_with fail
        refine hK.out _ _ ?_ (fun hHeld => ?_)
        · exact HB9.out
        clear hK K
        (try simp only [Act.put, List.setIfInBounds_toArray, List.set_cons_zero, List.set_cons_succ])
        generalize (((Y4.setCell ⟨X, 0, none⟩ (.int .u64 (limb s 0 : Nat))).setCell ⟨X, 1, none⟩ (.int .u64 (limb s 1 : Nat))).setCell ⟨X, 2, none⟩ (.int .u64 (limb s 2 : Nat))).setCell ⟨X, 3, none⟩ (.int .u64 (limb s 3 : Nat)) = Y9 at HB9 SX hHeld ⊢
        refine wpAnyH_take (i := 10) (v := ?_) rfl (by kernel_rfl) (by kernel_rfl) (by kernel_rfl) (fun _ _ _ h => h) (Or.inl ⟨by kernel_rfl, ?_⟩) (by with_reducible assumption) ?_
        rotate_left
        · intro wz hSw
          (try dsimp only at hSw)
          go_simp
          (try with_reducible rfl)
        show wpAnyH _ _ _ _ _ _ _ (Act.put _ (some 10) _) _
        (try simp only [Act.put, List.setIfInBounds_toArray, List.set_cons_zero, List.set_cons_succ])
        refine wpAnyH_done (by kernel_rfl) ?_ _
        go_wp2_with fail
        go_meet
        case rel => exact ⟨X, rfl, rfl, SX.out, HB9.out⟩
    · clear hHeld
      go_simp
      have HB8 := Lib.hid (HY0.out.alloc HY0.out.size (.cells #[.int .u64 0, .int .u64 0, .int .u64 0, .int .u64 0] 24))
      have F_n := Lib.hid (heap_alloc_new Y0 (.cells #[.int .u64 0, .int .u64 0, .int .u64 0, .int .u64 0] 24))
      obtain ⟨X, eX⟩ : ∃ y, y = Y0.heap.size := ⟨_, rfl⟩
      go_wp2_with fail
      refine hK.out _ _ ?_ (fun hHeld => ?_)
      · exact HB8.out
      clear hK K
      (try simp only [Act.put, List.setIfInBounds_toArray, List.set_cons_zero, List.set_cons_succ])
      rw [← eX] at F_n ⊢
      have LX := Lib.hid (show Wa.heap.size ≤ X from by rw [eX]; exact HY0.out.size)
      clear eX
      generalize Y0.alloc (.cells #[.int .u64 0, .int .u64 0, .int .u64 0, .int .u64 0] 24) = Y8 at HB8 F_n hHeld ⊢
      refine wpAnyH_ready (rs := [2]) (by kernel_rfl) (by simp) ?_
      refine AllReadyH.cons rfl (fun K hK => ?_) AllReadyH.nil
      clear hHeld
      go_simp
      go_at_call 45
      refine (HA.out _ (HB0.out.trans (HB8.out.mono HB0.out.size))).mono ?_
      rintro e Y2 ⟨rfl, hb⟩
      have HB2 := Lib.hid (HB8.out.trans (hb.mono HB8.out.size))
      have F_2 := Lib.hid ((hb.block _ (hp_lt F_n.out)).trans F_n.out)
      clear hb
      go_wp2_with fail
      refine hK.out _ _ ?_ (fun hHeld => ?_)
      · exact HB2.out
      clear hK K
      (try simp only [Act.put, List.setIfInBounds_toArray, List.set_cons_zero, List.set_cons_succ])
      refine wpAnyH_ready (rs := [4]) (by kernel_rfl) (by simp) ?_
      refine AllReadyH.cons rfl (fun K hK => ?_) AllReadyH.nil
      clear hHeld
      go_simp
      go_at_call 47
      refine (HSb.out _).mono ?_
      rintro e Y4 ⟨rfl, hb⟩
      have HB4 := Lib.hid (HB2.out.trans (hb.mono HB2.out.size))
      have F_4 := Lib.hid ((hb.block _ (hp_lt F_2.out)).trans F_2.out)
      clear hb
      go_wp2_with fail
      refine hK.out _ _ ?_ (fun hHeld => ?_)
      · exact HB4.out
      clear hK K
      (try simp only [Act.put, List.setIfInBounds_toArray, List.set_cons_zero, List.set_cons_succ])
      refine wpAnyH_take (i := 5) (v := ?_) rfl (by kernel_rfl) (by kernel_rfl) (by kernel_rfl) (fun _ _ _ h => h) (Or.inl ⟨by kernel_rfl, ?_⟩) (by with_reducible assumption) ?_
      rotate_left
      · intro wz hSw
        (try dsimp only at hSw)
        go_simp
        (try with_reducible rfl)
      show wpAnyH _ _ _ _ _ _ _ (Act.put _ (some 13) _) _
      (try simp only [Act.put, List.setIfInBounds_toArray, List.set_cons_zero, List.set_cons_succ])
      refine wpAnyH_take (i := 6) (v := ?_) rfl (by kernel_rfl) (by kernel_rfl) (by kernel_rfl) (fun _ _ _ h => h) (Or.inl ⟨by kernel_rfl, ?_⟩) (by with_reducible assumption) ?_
      rotate_left
      · intro wz hSw
        (try dsimp only at hSw)
        go_simp
        (try with_reducible rfl)
      show wpAnyH _ _ _ _ _ _ _ (Act.put _ (some 19) _) _
      (try simp only [Act.put, List.setIfInBounds_toArray, List.set_cons_zero, List.set_cons_succ])
      refine wpAnyH_take (i := 7) (v := ?_) rfl (by kernel_rfl) (by kernel_rfl) (by kernel_rfl) (fun _ _ _ h => h) (Or.inl ⟨by kernel_rfl, ?_⟩) (by with_reducible assumption) ?_
      rotate_left
      · intro wz hSw
        (try dsimp only at hSw)
        go_simp
        (try with_reducible rfl)
      show wpAnyH _ _ _ _ _ _ _ (Act.put _ (some 20) _) _
      (try simp only [Act.put, List.setIfInBounds_toArray, List.set_cons_zero, List.set_cons_succ])
      refine wpAnyH_ready (rs := [9]) (by kernel_rfl) (by simp) ?_
      refine AllReadyH.cons rfl (fun K hK => ?_) AllReadyH.nil
      clear hHeld
      have c0 := (hp_cell (i := 0) F_4.out).trans rfl
      have g0 := hp_free (i := 0) F_4.out
      have c1 := (hp_cell (i := 1) F_4.out).trans rfl
      have g1 := hp_free (i := 1) F_4.out
      have c2 := (hp_cell (i := 2) F_4.out).trans rfl
      have g2 := hp_free (i := 2) F_4.out
      have c3 := (hp_cell (i := 3) F_4.out).trans rfl
      have g3 := hp_free (i := 3) F_4.out
      go_simp
      clear c0 c1 c2 c3 g0 g1 g2 g3
      have HB9 := Lib.hid (show Below Wa.heap.size Wa ((((Y4.setCell ⟨X, 0, none⟩ (.int .u64 (limb s 0 : Nat))).setCell ⟨X, 1, none⟩ (.int .u64 (limb s 1 : Nat))).setCell ⟨X, 2, none⟩ (.int .u64 (limb s 2 : Nat))).setCell ⟨X, 3, none⟩ (.int .u64 (limb s 3 : Nat))) from ((((HB4.out.setCell LX.out _).setCell LX.out _).setCell LX.out _).setCell LX.out _))
      have SX := Lib.hid (set4b (.int .u64 (limb s 0 : Nat)) (.int .u64 (limb s 1 : Nat)) (.int .u64 (limb s 2 : Nat)) (.int .u64 (limb s 3 : Nat)) F_4.out (rfl : ((((Y4.setCell ⟨X, 0, none⟩ (.int .u64 (limb s 0 : Nat))).setCell ⟨X, 1, none⟩ (.int .u64 (limb s 1 : Nat))).setCell ⟨X, 2, none⟩ (.int .u64 (limb s 2 : Nat))).setCell ⟨X, 3, none⟩ (.int .u64 (limb s 3 : Nat))) = _))
      go_wp2_with fail
      refine hK.out _ _ ?_ (fun hHeld => ?_)
      · exact HB9.out
      clear hK K
      (try simp only [Act.put, List.setIfInBounds_toArray, List.set_cons_zero, List.set_cons_succ])
      generalize (((Y4.setCell ⟨X, 0, none⟩ (.int .u64 (limb s 0 : Nat))).setCell ⟨X, 1, none⟩ (.int .u64 (limb s 1 : Nat))).setCell ⟨X, 2, none⟩ (.int .u64 (limb s 2 : Nat))).setCell ⟨X, 3, none⟩ (.int .u64 (limb s 3 : Nat)) = Y9 at HB9 SX hHeld ⊢
      refine wpAnyH_take (i := 10) (v := ?_) rfl (by kernel_rfl) (by kernel_rfl) (by kernel_rfl) (fun _ _ _ h => h) (Or.inl ⟨by kernel_rfl, ?_⟩) (by with_reducible assumption) ?_
      rotate_left
      · intro wz hSw
        (try dsimp only at hSw)
        go_simp
        (try with_reducible rfl)
      show wpAnyH _ _ _ _ _ _ _ (Act.put _ (some 10) _) _
      (try simp only [Act.put, List.setIfInBounds_toArray, List.set_cons_zero, List.set_cons_succ])
      refine wpAnyH_done (by kernel_rfl) ?_ _
      go_wp2_with fail
      go_meet
      case rel => exact ⟨X, rfl, rfl, SX.out, HB9.out⟩
  case rest =>
    obtain ⟨B1, rfl, rfl, hB1, hbc⟩ := hcut
    obtain ⟨Wb, hWb⟩ : ∃ Wb, Wb = wc := ⟨_, rfl⟩
    subst hWb
    have HBc := Lib.hid (HB0.out.trans (hbc.mono HB0.out.size))
    clear hB1 hbc
    go_wp2
    go_ret
    exact ⟨rfl, HD.out _ HBc.out⟩
set_option maxRecDepth 100000 in
set_option maxHeartbeats 4000000 in
theorem rmove_ok (w W : World) (m : Nat) (L : SL) (R : List Ch) (k1 k2 : ByteArray) (x a : Nat) (h : DS w W m L R) (hr : Rising (skeys L)) (hN : L.length < 900000) (he : amtAt L k1 x) (hx : x < 2 ^ 256) (ha : a < 2 ^ 256) (y : Nat) (hR : R.length < 900000) (hlt : a ≤ x) (hk : k1 ≠ k2) (hk10 : k1 ≠ ⟨#[]⟩) (hk20 : k2 ≠ ⟨#[]⟩) (he2 : amtAt L k2 y) (hy : y < 2 ^ 256) (hle : y + a ≤ MOST) :
    Calls Tryz.prog 24 #[.pointer (some ⟨m, 0, none⟩), .string k1, .string k2, U a] W fun e W' => e = .returned (.int .i64 0) ∧ DSTo w W W' m (setA (setA L k1 (x - a)) k2 (y + a)) (setAR (setA L k1 (x - a)) (setAR L R k1 (x - a)) k2 (y + a)) := by
  have hb0 := (Below.refl W.heap.size W).alloc (Nat.le_refl _) (.cells #[.int .u64 (limb a 0 : Nat), .int .u64 (limb a 1 : Nat), .int .u64 (limb a 2 : Nat), .int .u64 (limb a 3 : Nat)] 24)
  have r0 := heap_alloc_new W (.cells #[.int .u64 (limb a 0 : Nat), .int .u64 (limb a 1 : Nat), .int .u64 (limb a 2 : Nat), .int .u64 (limb a 3 : Nat)] 24)
  have HB0 := Lib.hid hb0
  have hA := fun (W1 : World) (hb : Below W.heap.size W W1) => ramount_at w W1 m L R k1 x (h.below hb) hr (by omega) he hx
  have hSb := fun W1 => rsub_walk x a W1 hx ha
  unfold subv subk at hSb
  rw [if_pos hlt, decide_eq_true hlt] at hSb
  have q1 : (k1.toList == k2.toList) = false := by
    rw [beq_eq_false_iff_ne]
    intro e
    rw [Lib.toList_data, Lib.toList_data] at e
    exact hk (lit_inj (congrArg Lit.string e))
  have hv : y + a < 2 ^ 256 := Nat.lt_of_le_of_lt hle MOST_lt
  have hA2 := fun (W1 : World) (hb : Below W.heap.size W W1) => ramount_at w W1 m L R k2 y (h.below hb) hr (by omega) he2 hy
  have hAd := fun W1 => radd_walk y a W1 hy ha
  unfold addv addk at hAd
  rw [if_pos hv, decide_eq_true hv] at hAd
  obtain ⟨s, hs⟩ : ∃ s, s = x - a := ⟨_, rfl⟩
  obtain ⟨v, hv2⟩ : ∃ v, v = y + a := ⟨_, rfl⟩
  rw [← hs] at hSb ⊢
  rw [← hv2] at hAd hv hle ⊢
  have hs2 : s < 2 ^ 256 := by omega
  have HAm := Lib.hid (fun W => amount_cc v W true hv (decide_eq_true hle))
  have hl1 := setA_le L k1 s
  have hr1 := rising_setA hr k1 s
  have hR1 := setAR_le L R k1 s
  have hS1 := fun (W1 : World) (hb : Below W.heap.size W W1) => rsetAmount_walk w W1 m L R k1 s (h.below hb) hk10 hr (by omega) (by omega) hs2
  have hS2 := fun (W1 : World) (hd : DS w W1 m (setA L k1 s) (setAR L R k1 s)) => rsetAmount_walk w W1 m _ _ k2 v hd hk20 hr1 (by omega) (by omega) hv
  have HPr := Lib.hid (fun (W1 W2 W3 : World) (hb : Below W.heap.size W W1) (h4 : DSTo w W1 W2 m (setA L k1 s) (setAR L R k1 s)) (h5 : DSTo w W2 W3 m (setA (setA L k1 s) k2 v) (setAR (setA L k1 s) (setAR L R k1 s) k2 v)) => (DSTo.pre h hb h4).trans h5)
  unfold U at hA2 hAd hS1 hS2
  have HA2 := Lib.hid hA2
  have HAd := Lib.hid hAd
  have HS1 := Lib.hid hS1
  have HS2 := Lib.hid hS2
  unfold U at hA hSb
  have HA := Lib.hid hA
  have HSb := Lib.hid hSb
  have HR0 := Lib.hid r0
  clear h hr hN he hx ha hb0 r0 hA hSb hlt hk hk10 hk20 he2 hy hle hv hA2 hAd hs hv2 hs2 hl1 hr1 hR1 hR hS1 hS2
  unfold U
  go_enter Tryz.func24, Tryz.ntmps24
  go_upto_region 1 with fail
  obtain ⟨XB, hXB⟩ : ∃ XB, XB = W.heap.size := ⟨_, rfl⟩
  rw [← hXB] at HR0 ⊢
  have HBx := Lib.hid HR0.out
  have LB := Lib.hid (hp_lt HR0.out)
  clear hXB HR0
  generalize W.alloc (.cells #[.int .u64 (limb a 0 : Nat), .int .u64 (limb a 1 : Nat), .int .u64 (limb a 2 : Nat), .int .u64 (limb a 3 : Nat)] 24) = Wa at HB0 HBx LB ⊢
  go_cut [9, 10] (fun p q wx => ∃ B, p = .pointer (some ⟨B, 0, none⟩) ∧ q = .bool true ∧ wx.heap[B]? = some (.cells #[.int .u64 (limb s 0 : Nat), .int .u64 (limb s 1 : Nat), .int .u64 (limb s 2 : Nat), .int .u64 (limb s 3 : Nat)] 24 (0, 0)) ∧ Below Wa.heap.size Wa wx)
  case first =>
    refine wp_region_held_drew (S := fun w' => Below Wa.heap.size Wa w') (by kernel_rfl) ?_ (fun hHeld => ?_)
    · exact (Below.refl _ _).drew
    have HY0 := Lib.hid (show Below Wa.heap.size Wa Wa.drew from (Below.refl _ _).drew)
    generalize Wa.drew = Y0 at HY0 hHeld ⊢
    refine wpAnyH_take (i := 0) (v := ?_) rfl (by kernel_rfl) (by kernel_rfl) (by kernel_rfl) (fun _ _ _ h => h) (Or.inl ⟨by kernel_rfl, ?_⟩) (by with_reducible assumption) ?_
    rotate_left
    · intro wz hSw
      (try dsimp only at hSw)
      go_simp
      (try with_reducible rfl)
    show wpAnyH _ _ _ _ _ _ _ (Act.put _ (some 14) _) _
    (try simp only [Act.put, List.setIfInBounds_toArray, List.set_cons_zero, List.set_cons_succ])
    refine wpAnyH_take (i := 1) (v := ?_) rfl (by kernel_rfl) (by kernel_rfl) (by kernel_rfl) (fun _ _ _ h => h) (Or.inl ⟨by kernel_rfl, ?_⟩) (by with_reducible assumption) ?_
    rotate_left
    · intro wz hSw
      (try dsimp only at hSw)
      go_simp
      (try with_reducible rfl)
    show wpAnyH _ _ _ _ _ _ _ (Act.put _ (some 15) _) _
    (try simp only [Act.put, List.setIfInBounds_toArray, List.set_cons_zero, List.set_cons_succ])
    refine wpAnyH_take (i := 3) (v := .agg #[.int .u64 (limb a 0 : Nat), .int .u64 (limb a 1 : Nat), .int .u64 (limb a 2 : Nat), .int .u64 (limb a 3 : Nat)]) rfl (by kernel_rfl) (by kernel_rfl) (by kernel_rfl) (fun _ _ _ h => h) (Or.inl ⟨by kernel_rfl, ?_⟩) (by with_reducible assumption) ?_
    · intro wz hSw
      (try dsimp only at hSw)
      have z0 := (hSw.cell (p := ⟨XB, 0, none⟩) LB.out).trans ((hp_cell (i := 0) HBx.out).trans rfl)
      have z1 := (hSw.cell (p := ⟨XB, 1, none⟩) LB.out).trans ((hp_cell (i := 1) HBx.out).trans rfl)
      have z2 := (hSw.cell (p := ⟨XB, 2, none⟩) LB.out).trans ((hp_cell (i := 2) HBx.out).trans rfl)
      have z3 := (hSw.cell (p := ⟨XB, 3, none⟩) LB.out).trans ((hp_cell (i := 3) HBx.out).trans rfl)
      go_simp
      (try with_reducible rfl)
    show wpAnyH _ _ _ _ _ _ _ (Act.put _ (some 17) _) _
    (try simp only [Act.put, List.setIfInBounds_toArray, List.set_cons_zero, List.set_cons_succ])
    refine wpAnyH_ready (rs := [2, 8]) (by kernel_rfl) (by simp) ?_
    refine AllReadyH.cons rfl (fun K hK => ?_) (AllReadyH.cons rfl (fun K hK => ?_) AllReadyH.nil)
    · clear hHeld
      go_simp
      go_at_call 45
      refine (HA.out _ (HB0.out.trans (HY0.out.mono HB0.out.size))).mono ?_
      rintro e Y2 ⟨rfl, hb⟩
      have HB2 := Lib.hid (HY0.out.trans (hb.mono HY0.out.size))
      clear hb
      go_wp2_with fail
      refine hK.out _ _ ?_ (fun hHeld => ?_)
      · exact HB2.out
      clear hK K
      (try simp only [Act.put, List.setIfInBounds_toArray, List.set_cons_zero, List.set_cons_succ])
      refine wpAnyH_ready (rs := [4, 8]) (by kernel_rfl) (by simp) ?_
      refine AllReadyH.cons rfl (fun K hK => ?_) (AllReadyH.cons rfl (fun K hK => ?_) AllReadyH.nil)
      · clear hHeld
        go_simp
        go_at_call 47
        refine (HSb.out _).mono ?_
        rintro e Y4 ⟨rfl, hb⟩
        have HB4 := Lib.hid (HB2.out.trans (hb.mono HB2.out.size))
        clear hb
        go_wp2_with fail
        refine hK.out _ _ ?_ (fun hHeld => ?_)
        · exact HB4.out
        clear hK K
        (try simp only [Act.put, List.setIfInBounds_toArray, List.set_cons_zero, List.set_cons_succ])
        refine wpAnyH_take (i := 5) (v := ?_) rfl (by kernel_rfl) (by kernel_rfl) (by kernel_rfl) (fun _ _ _ h => h) (Or.inl ⟨by kernel_rfl, ?_⟩) (by with_reducible assumption) ?_
        rotate_left
        · intro wz hSw
          (try dsimp only at hSw)
          go_simp
          (try with_reducible rfl)
        show wpAnyH _ _ _ _ _ _ _ (Act.put _ (some 13) _) _
        (try simp only [Act.put, List.setIfInBounds_toArray, List.set_cons_zero, List.set_cons_succ])
        refine wpAnyH_take (i := 6) (v := ?_) rfl (by kernel_rfl) (by kernel_rfl) (by kernel_rfl) (fun _ _ _ h => h) (Or.inl ⟨by kernel_rfl, ?_⟩) (by with_reducible assumption) ?_
        rotate_left
        · intro wz hSw
          (try dsimp only at hSw)
          go_simp
          (try with_reducible rfl)
        show wpAnyH _ _ _ _ _ _ _ (Act.put _ (some 19) _) _
        (try simp only [Act.put, List.setIfInBounds_toArray, List.set_cons_zero, List.set_cons_succ])
        refine wpAnyH_take (i := 7) (v := ?_) rfl (by kernel_rfl) (by kernel_rfl) (by kernel_rfl) (fun _ _ _ h => h) (Or.inl ⟨by kernel_rfl, ?_⟩) (by with_reducible assumption) ?_
        rotate_left
        · intro wz hSw
          (try dsimp only at hSw)
          go_simp
          (try with_reducible rfl)
        show wpAnyH _ _ _ _ _ _ _ (Act.put _ (some 20) _) _
        (try simp only [Act.put, List.setIfInBounds_toArray, List.set_cons_zero, List.set_cons_succ])
        refine wpAnyH_ready (rs := [8]) (by kernel_rfl) (by simp) ?_
        refine AllReadyH.cons rfl (fun K hK => ?_) AllReadyH.nil
        clear hHeld
        go_simp
        have HB8 := Lib.hid (HB4.out.alloc HB4.out.size (.cells #[.int .u64 0, .int .u64 0, .int .u64 0, .int .u64 0] 24))
        have F_n := Lib.hid (heap_alloc_new Y4 (.cells #[.int .u64 0, .int .u64 0, .int .u64 0, .int .u64 0] 24))
        obtain ⟨X, eX⟩ : ∃ y, y = Y4.heap.size := ⟨_, rfl⟩
        go_wp2_with fail
        refine hK.out _ _ ?_ (fun hHeld => ?_)
        · exact HB8.out
        clear hK K
        (try simp only [Act.put, List.setIfInBounds_toArray, List.set_cons_zero, List.set_cons_succ])
        rw [← eX] at F_n ⊢
        have LX := Lib.hid (show Wa.heap.size ≤ X from by rw [eX]; exact HB4.out.size)
        clear eX
        generalize Y4.alloc (.cells #[.int .u64 0, .int .u64 0, .int .u64 0, .int .u64 0] 24) = Y8 at HB8 F_n hHeld ⊢
        refine wpAnyH_ready (rs := [9]) (by kernel_rfl) (by simp) ?_
        refine AllReadyH.cons rfl (fun K hK => ?_) AllReadyH.nil
        clear hHeld
        have c0 := (hp_cell (i := 0) F_n.out).trans rfl
        have g0 := hp_free (i := 0) F_n.out
        have c1 := (hp_cell (i := 1) F_n.out).trans rfl
        have g1 := hp_free (i := 1) F_n.out
        have c2 := (hp_cell (i := 2) F_n.out).trans rfl
        have g2 := hp_free (i := 2) F_n.out
        have c3 := (hp_cell (i := 3) F_n.out).trans rfl
        have g3 := hp_free (i := 3) F_n.out
        go_simp
        clear c0 c1 c2 c3 g0 g1 g2 g3
        have HB9 := Lib.hid (show Below Wa.heap.size Wa ((((Y8.setCell ⟨X, 0, none⟩ (.int .u64 (limb s 0 : Nat))).setCell ⟨X, 1, none⟩ (.int .u64 (limb s 1 : Nat))).setCell ⟨X, 2, none⟩ (.int .u64 (limb s 2 : Nat))).setCell ⟨X, 3, none⟩ (.int .u64 (limb s 3 : Nat))) from ((((HB8.out.setCell LX.out _).setCell LX.out _).setCell LX.out _).setCell LX.out _))
        have SX := Lib.hid (set4b (.int .u64 (limb s 0 : Nat)) (.int .u64 (limb s 1 : Nat)) (.int .u64 (limb s 2 : Nat)) (.int .u64 (limb s 3 : Nat)) F_n.out (rfl : ((((Y8.setCell ⟨X, 0, none⟩ (.int .u64 (limb s 0 : Nat))).setCell ⟨X, 1, none⟩ (.int .u64 (limb s 1 : Nat))).setCell ⟨X, 2, none⟩ (.int .u64 (limb s 2 : Nat))).setCell ⟨X, 3, none⟩ (.int .u64 (limb s 3 : Nat))) = _))
        go_wp2_with fail
        refine hK.out _ _ ?_ (fun hHeld => ?_)
        · exact HB9.out
        clear hK K
        (try simp only [Act.put, List.setIfInBounds_toArray, List.set_cons_zero, List.set_cons_succ])
        generalize (((Y8.setCell ⟨X, 0, none⟩ (.int .u64 (limb s 0 : Nat))).setCell ⟨X, 1, none⟩ (.int .u64 (limb s 1 : Nat))).setCell ⟨X, 2, none⟩ (.int .u64 (limb s 2 : Nat))).setCell ⟨X, 3, none⟩ (.int .u64 (limb s 3 : Nat)) = Y9 at HB9 SX hHeld ⊢
        refine wpAnyH_take (i := 10) (v := ?_) rfl (by kernel_rfl) (by kernel_rfl) (by kernel_rfl) (fun _ _ _ h => h) (Or.inl ⟨by kernel_rfl, ?_⟩) (by with_reducible assumption) ?_
        rotate_left
        · intro wz hSw
          (try dsimp only at hSw)
          go_simp
          (try with_reducible rfl)
        show wpAnyH _ _ _ _ _ _ _ (Act.put _ (some 10) _) _
        (try simp only [Act.put, List.setIfInBounds_toArray, List.set_cons_zero, List.set_cons_succ])
        refine wpAnyH_done (by kernel_rfl) ?_ _
        go_wp2_with fail
        go_meet
        case rel => exact ⟨X, rfl, rfl, SX.out, HB9.out⟩
      · clear hHeld
        go_simp
        have HB8 := Lib.hid (HB2.out.alloc HB2.out.size (.cells #[.int .u64 0, .int .u64 0, .int .u64 0, .int .u64 0] 24))
        have F_n := Lib.hid (heap_alloc_new Y2 (.cells #[.int .u64 0, .int .u64 0, .int .u64 0, .int .u64 0] 24))
        obtain ⟨X, eX⟩ : ∃ y, y = Y2.heap.size := ⟨_, rfl⟩
        go_wp2_with fail
        refine hK.out _ _ ?_ (fun hHeld => ?_)
        · exact HB8.out
        clear hK K
        (try simp only [Act.put, List.setIfInBounds_toArray, List.set_cons_zero, List.set_cons_succ])
        rw [← eX] at F_n ⊢
        have LX := Lib.hid (show Wa.heap.size ≤ X from by rw [eX]; exact HB2.out.size)
        clear eX
        generalize Y2.alloc (.cells #[.int .u64 0, .int .u64 0, .int .u64 0, .int .u64 0] 24) = Y8 at HB8 F_n hHeld ⊢
        refine wpAnyH_ready (rs := [4]) (by kernel_rfl) (by simp) ?_
        refine AllReadyH.cons rfl (fun K hK => ?_) AllReadyH.nil
        clear hHeld
        go_simp
        go_at_call 47
        refine (HSb.out _).mono ?_
        rintro e Y4 ⟨rfl, hb⟩
        have HB4 := Lib.hid (HB8.out.trans (hb.mono HB8.out.size))
        have F_4 := Lib.hid ((hb.block _ (hp_lt F_n.out)).trans F_n.out)
        clear hb
        go_wp2_with fail
        refine hK.out _ _ ?_ (fun hHeld => ?_)
        · exact HB4.out
        clear hK K
        (try simp only [Act.put, List.setIfInBounds_toArray, List.set_cons_zero, List.set_cons_succ])
        refine wpAnyH_take (i := 5) (v := ?_) rfl (by kernel_rfl) (by kernel_rfl) (by kernel_rfl) (fun _ _ _ h => h) (Or.inl ⟨by kernel_rfl, ?_⟩) (by with_reducible assumption) ?_
        rotate_left
        · intro wz hSw
          (try dsimp only at hSw)
          go_simp
          (try with_reducible rfl)
        show wpAnyH _ _ _ _ _ _ _ (Act.put _ (some 13) _) _
        (try simp only [Act.put, List.setIfInBounds_toArray, List.set_cons_zero, List.set_cons_succ])
        refine wpAnyH_take (i := 6) (v := ?_) rfl (by kernel_rfl) (by kernel_rfl) (by kernel_rfl) (fun _ _ _ h => h) (Or.inl ⟨by kernel_rfl, ?_⟩) (by with_reducible assumption) ?_
        rotate_left
        · intro wz hSw
          (try dsimp only at hSw)
          go_simp
          (try with_reducible rfl)
        show wpAnyH _ _ _ _ _ _ _ (Act.put _ (some 19) _) _
        (try simp only [Act.put, List.setIfInBounds_toArray, List.set_cons_zero, List.set_cons_succ])
        refine wpAnyH_take (i := 7) (v := ?_) rfl (by kernel_rfl) (by kernel_rfl) (by kernel_rfl) (fun _ _ _ h => h) (Or.inl ⟨by kernel_rfl, ?_⟩) (by with_reducible assumption) ?_
        rotate_left
        · intro wz hSw
          (try dsimp only at hSw)
          go_simp
          (try with_reducible rfl)
        show wpAnyH _ _ _ _ _ _ _ (Act.put _ (some 20) _) _
        (try simp only [Act.put, List.setIfInBounds_toArray, List.set_cons_zero, List.set_cons_succ])
        refine wpAnyH_ready (rs := [9]) (by kernel_rfl) (by simp) ?_
        refine AllReadyH.cons rfl (fun K hK => ?_) AllReadyH.nil
        clear hHeld
        have c0 := (hp_cell (i := 0) F_4.out).trans rfl
        have g0 := hp_free (i := 0) F_4.out
        have c1 := (hp_cell (i := 1) F_4.out).trans rfl
        have g1 := hp_free (i := 1) F_4.out
        have c2 := (hp_cell (i := 2) F_4.out).trans rfl
        have g2 := hp_free (i := 2) F_4.out
        have c3 := (hp_cell (i := 3) F_4.out).trans rfl
        have g3 := hp_free (i := 3) F_4.out
        go_simp
        clear c0 c1 c2 c3 g0 g1 g2 g3
        have HB9 := Lib.hid (show Below Wa.heap.size Wa ((((Y4.setCell ⟨X, 0, none⟩ (.int .u64 (limb s 0 : Nat))).setCell ⟨X, 1, none⟩ (.int .u64 (limb s 1 : Nat))).setCell ⟨X, 2, none⟩ (.int .u64 (limb s 2 : Nat))).setCell ⟨X, 3, none⟩ (.int .u64 (limb s 3 : Nat))) from ((((HB4.out.setCell LX.out _).setCell LX.out _).setCell LX.out _).setCell LX.out _))
        have SX := Lib.hid (set4b (.int .u64 (limb s 0 : Nat)) (.int .u64 (limb s 1 : Nat)) (.int .u64 (limb s 2 : Nat)) (.int .u64 (limb s 3 : Nat)) F_4.out (rfl : ((((Y4.setCell ⟨X, 0, none⟩ (.int .u64 (limb s 0 : Nat))).setCell ⟨X, 1, none⟩ (.int .u64 (limb s 1 : Nat))).setCell ⟨X, 2, none⟩ (.int .u64 (limb s 2 : Nat))).setCell ⟨X, 3, none⟩ (.int .u64 (limb s 3 : Nat))) = _))
        go_wp2_with fail
        refine hK.out _ _ ?_ (fun hHeld => ?_)
        · exact HB9.out
        clear hK K
        (try simp only [Act.put, List.setIfInBounds_toArray, List.set_cons_zero, List.set_cons_succ])
        generalize (((Y4.setCell ⟨X, 0, none⟩ (.int .u64 (limb s 0 : Nat))).setCell ⟨X, 1, none⟩ (.int .u64 (limb s 1 : Nat))).setCell ⟨X, 2, none⟩ (.int .u64 (limb s 2 : Nat))).setCell ⟨X, 3, none⟩ (.int .u64 (limb s 3 : Nat)) = Y9 at HB9 SX hHeld ⊢
        refine wpAnyH_take (i := 10) (v := ?_) rfl (by kernel_rfl) (by kernel_rfl) (by kernel_rfl) (fun _ _ _ h => h) (Or.inl ⟨by kernel_rfl, ?_⟩) (by with_reducible assumption) ?_
        rotate_left
        · intro wz hSw
          (try dsimp only at hSw)
          go_simp
          (try with_reducible rfl)
        show wpAnyH _ _ _ _ _ _ _ (Act.put _ (some 10) _) _
        (try simp only [Act.put, List.setIfInBounds_toArray, List.set_cons_zero, List.set_cons_succ])
        refine wpAnyH_done (by kernel_rfl) ?_ _
        go_wp2_with fail
        go_meet
        case rel => exact ⟨X, rfl, rfl, SX.out, HB9.out⟩
    · clear hHeld
      go_simp
      have HB8 := Lib.hid (HY0.out.alloc HY0.out.size (.cells #[.int .u64 0, .int .u64 0, .int .u64 0, .int .u64 0] 24))
      have F_n := Lib.hid (heap_alloc_new Y0 (.cells #[.int .u64 0, .int .u64 0, .int .u64 0, .int .u64 0] 24))
      obtain ⟨X, eX⟩ : ∃ y, y = Y0.heap.size := ⟨_, rfl⟩
      go_wp2_with fail
      refine hK.out _ _ ?_ (fun hHeld => ?_)
      · exact HB8.out
      clear hK K
      (try simp only [Act.put, List.setIfInBounds_toArray, List.set_cons_zero, List.set_cons_succ])
      rw [← eX] at F_n ⊢
      have LX := Lib.hid (show Wa.heap.size ≤ X from by rw [eX]; exact HY0.out.size)
      clear eX
      generalize Y0.alloc (.cells #[.int .u64 0, .int .u64 0, .int .u64 0, .int .u64 0] 24) = Y8 at HB8 F_n hHeld ⊢
      refine wpAnyH_ready (rs := [2]) (by kernel_rfl) (by simp) ?_
      refine AllReadyH.cons rfl (fun K hK => ?_) AllReadyH.nil
      clear hHeld
      go_simp
      go_at_call 45
      refine (HA.out _ (HB0.out.trans (HB8.out.mono HB0.out.size))).mono ?_
      rintro e Y2 ⟨rfl, hb⟩
      have HB2 := Lib.hid (HB8.out.trans (hb.mono HB8.out.size))
      have F_2 := Lib.hid ((hb.block _ (hp_lt F_n.out)).trans F_n.out)
      clear hb
      go_wp2_with fail
      refine hK.out _ _ ?_ (fun hHeld => ?_)
      · exact HB2.out
      clear hK K
      (try simp only [Act.put, List.setIfInBounds_toArray, List.set_cons_zero, List.set_cons_succ])
      refine wpAnyH_ready (rs := [4]) (by kernel_rfl) (by simp) ?_
      refine AllReadyH.cons rfl (fun K hK => ?_) AllReadyH.nil
      clear hHeld
      go_simp
      go_at_call 47
      refine (HSb.out _).mono ?_
      rintro e Y4 ⟨rfl, hb⟩
      have HB4 := Lib.hid (HB2.out.trans (hb.mono HB2.out.size))
      have F_4 := Lib.hid ((hb.block _ (hp_lt F_2.out)).trans F_2.out)
      clear hb
      go_wp2_with fail
      refine hK.out _ _ ?_ (fun hHeld => ?_)
      · exact HB4.out
      clear hK K
      (try simp only [Act.put, List.setIfInBounds_toArray, List.set_cons_zero, List.set_cons_succ])
      refine wpAnyH_take (i := 5) (v := ?_) rfl (by kernel_rfl) (by kernel_rfl) (by kernel_rfl) (fun _ _ _ h => h) (Or.inl ⟨by kernel_rfl, ?_⟩) (by with_reducible assumption) ?_
      rotate_left
      · intro wz hSw
        (try dsimp only at hSw)
        go_simp
        (try with_reducible rfl)
      show wpAnyH _ _ _ _ _ _ _ (Act.put _ (some 13) _) _
      (try simp only [Act.put, List.setIfInBounds_toArray, List.set_cons_zero, List.set_cons_succ])
      refine wpAnyH_take (i := 6) (v := ?_) rfl (by kernel_rfl) (by kernel_rfl) (by kernel_rfl) (fun _ _ _ h => h) (Or.inl ⟨by kernel_rfl, ?_⟩) (by with_reducible assumption) ?_
      rotate_left
      · intro wz hSw
        (try dsimp only at hSw)
        go_simp
        (try with_reducible rfl)
      show wpAnyH _ _ _ _ _ _ _ (Act.put _ (some 19) _) _
      (try simp only [Act.put, List.setIfInBounds_toArray, List.set_cons_zero, List.set_cons_succ])
      refine wpAnyH_take (i := 7) (v := ?_) rfl (by kernel_rfl) (by kernel_rfl) (by kernel_rfl) (fun _ _ _ h => h) (Or.inl ⟨by kernel_rfl, ?_⟩) (by with_reducible assumption) ?_
      rotate_left
      · intro wz hSw
        (try dsimp only at hSw)
        go_simp
        (try with_reducible rfl)
      show wpAnyH _ _ _ _ _ _ _ (Act.put _ (some 20) _) _
      (try simp only [Act.put, List.setIfInBounds_toArray, List.set_cons_zero, List.set_cons_succ])
      refine wpAnyH_ready (rs := [9]) (by kernel_rfl) (by simp) ?_
      refine AllReadyH.cons rfl (fun K hK => ?_) AllReadyH.nil
      clear hHeld
      have c0 := (hp_cell (i := 0) F_4.out).trans rfl
      have g0 := hp_free (i := 0) F_4.out
      have c1 := (hp_cell (i := 1) F_4.out).trans rfl
      have g1 := hp_free (i := 1) F_4.out
      have c2 := (hp_cell (i := 2) F_4.out).trans rfl
      have g2 := hp_free (i := 2) F_4.out
      have c3 := (hp_cell (i := 3) F_4.out).trans rfl
      have g3 := hp_free (i := 3) F_4.out
      go_simp
      clear c0 c1 c2 c3 g0 g1 g2 g3
      have HB9 := Lib.hid (show Below Wa.heap.size Wa ((((Y4.setCell ⟨X, 0, none⟩ (.int .u64 (limb s 0 : Nat))).setCell ⟨X, 1, none⟩ (.int .u64 (limb s 1 : Nat))).setCell ⟨X, 2, none⟩ (.int .u64 (limb s 2 : Nat))).setCell ⟨X, 3, none⟩ (.int .u64 (limb s 3 : Nat))) from ((((HB4.out.setCell LX.out _).setCell LX.out _).setCell LX.out _).setCell LX.out _))
      have SX := Lib.hid (set4b (.int .u64 (limb s 0 : Nat)) (.int .u64 (limb s 1 : Nat)) (.int .u64 (limb s 2 : Nat)) (.int .u64 (limb s 3 : Nat)) F_4.out (rfl : ((((Y4.setCell ⟨X, 0, none⟩ (.int .u64 (limb s 0 : Nat))).setCell ⟨X, 1, none⟩ (.int .u64 (limb s 1 : Nat))).setCell ⟨X, 2, none⟩ (.int .u64 (limb s 2 : Nat))).setCell ⟨X, 3, none⟩ (.int .u64 (limb s 3 : Nat))) = _))
      go_wp2_with fail
      refine hK.out _ _ ?_ (fun hHeld => ?_)
      · exact HB9.out
      clear hK K
      (try simp only [Act.put, List.setIfInBounds_toArray, List.set_cons_zero, List.set_cons_succ])
      generalize (((Y4.setCell ⟨X, 0, none⟩ (.int .u64 (limb s 0 : Nat))).setCell ⟨X, 1, none⟩ (.int .u64 (limb s 1 : Nat))).setCell ⟨X, 2, none⟩ (.int .u64 (limb s 2 : Nat))).setCell ⟨X, 3, none⟩ (.int .u64 (limb s 3 : Nat)) = Y9 at HB9 SX hHeld ⊢
      refine wpAnyH_take (i := 10) (v := ?_) rfl (by kernel_rfl) (by kernel_rfl) (by kernel_rfl) (fun _ _ _ h => h) (Or.inl ⟨by kernel_rfl, ?_⟩) (by with_reducible assumption) ?_
      rotate_left
      · intro wz hSw
        (try dsimp only at hSw)
        go_simp
        (try with_reducible rfl)
      show wpAnyH _ _ _ _ _ _ _ (Act.put _ (some 10) _) _
      (try simp only [Act.put, List.setIfInBounds_toArray, List.set_cons_zero, List.set_cons_succ])
      refine wpAnyH_done (by kernel_rfl) ?_ _
      go_wp2_with fail
      go_meet
      case rel => exact ⟨X, rfl, rfl, SX.out, HB9.out⟩
  case rest =>
    obtain ⟨B1, rfl, rfl, hB1, hbc⟩ := hcut
    obtain ⟨Wb, hWb⟩ : ∃ Wb, Wb = wc := ⟨_, rfl⟩
    subst hWb
    have HBc := Lib.hid (HB0.out.trans (hbc.mono HB0.out.size))
    have HBx2 := Lib.hid ((hbc.block _ LB.out).trans HBx.out)
    have LB2 := Lib.hid (hp_lt HBx2.out)
    have HB1 := Lib.hid hB1
    clear hB1 hbc
    go_upto_region 6 with fail
    go_cut [11, 12] (fun p q wx => ∃ B, p = .pointer (some ⟨B, 0, none⟩) ∧ q = .bool true ∧ wx.heap[B]? = some (.cells #[.int .u64 (limb v 0 : Nat), .int .u64 (limb v 1 : Nat), .int .u64 (limb v 2 : Nat), .int .u64 (limb v 3 : Nat)] 24 (0, 0)) ∧ Below Wb.heap.size Wb wx)
    case first =>
      refine wp_region_held_drew (S := fun w' => Below Wb.heap.size Wb w') (by kernel_rfl) ?_ (fun hHeld => ?_)
      · exact (Below.refl _ _).drew
      have HY0 := Lib.hid (show Below Wb.heap.size Wb Wb.drew from (Below.refl _ _).drew)
      generalize Wb.drew = Y0 at HY0 hHeld ⊢
      refine wpAnyH_take (i := 0) (v := ?_) rfl (by kernel_rfl) (by kernel_rfl) (by kernel_rfl) (fun _ _ _ h => h) (Or.inl ⟨by kernel_rfl, ?_⟩) (by with_reducible assumption) ?_
      rotate_left
      · intro wz hSw
        (try dsimp only at hSw)
        go_simp
        (try with_reducible rfl)
      show wpAnyH _ _ _ _ _ _ _ (Act.put _ (some 27) _) _
      (try simp only [Act.put, List.setIfInBounds_toArray, List.set_cons_zero, List.set_cons_succ])
      refine wpAnyH_take (i := 1) (v := ?_) rfl (by kernel_rfl) (by kernel_rfl) (by kernel_rfl) (fun _ _ _ h => h) (Or.inl ⟨by kernel_rfl, ?_⟩) (by with_reducible assumption) ?_
      rotate_left
      · intro wz hSw
        (try dsimp only at hSw)
        go_simp
        (try with_reducible rfl)
      show wpAnyH _ _ _ _ _ _ _ (Act.put _ (some 28) _) _
      (try simp only [Act.put, List.setIfInBounds_toArray, List.set_cons_zero, List.set_cons_succ])
      refine wpAnyH_take (i := 3) (v := .agg #[.int .u64 (limb a 0 : Nat), .int .u64 (limb a 1 : Nat), .int .u64 (limb a 2 : Nat), .int .u64 (limb a 3 : Nat)]) rfl (by kernel_rfl) (by kernel_rfl) (by kernel_rfl) (fun _ _ _ h => h) (Or.inl ⟨by kernel_rfl, ?_⟩) (by with_reducible assumption) ?_
      · intro wz hSw
        (try dsimp only at hSw)
        have z0 := (hSw.cell (p := ⟨XB, 0, none⟩) LB2.out).trans ((hp_cell (i := 0) HBx2.out).trans rfl)
        have z1 := (hSw.cell (p := ⟨XB, 1, none⟩) LB2.out).trans ((hp_cell (i := 1) HBx2.out).trans rfl)
        have z2 := (hSw.cell (p := ⟨XB, 2, none⟩) LB2.out).trans ((hp_cell (i := 2) HBx2.out).trans rfl)
        have z3 := (hSw.cell (p := ⟨XB, 3, none⟩) LB2.out).trans ((hp_cell (i := 3) HBx2.out).trans rfl)
        go_simp
        (try with_reducible rfl)
      show wpAnyH _ _ _ _ _ _ _ (Act.put _ (some 30) _) _
      (try simp only [Act.put, List.setIfInBounds_toArray, List.set_cons_zero, List.set_cons_succ])
      refine wpAnyH_ready (rs := [2, 8]) (by kernel_rfl) (by simp) ?_
      refine AllReadyH.cons rfl (fun K hK => ?_) (AllReadyH.cons rfl (fun K hK => ?_) AllReadyH.nil)
      · clear hHeld
        go_simp
        go_at_call 45
        refine (HA2.out _ (HBc.out.trans (HY0.out.mono HBc.out.size))).mono ?_
        rintro e Y2 ⟨rfl, hb⟩
        have HB2 := Lib.hid (HY0.out.trans (hb.mono HY0.out.size))
        clear hb
        go_wp2_with fail
        refine hK.out _ _ ?_ (fun hHeld => ?_)
        · exact HB2.out
        clear hK K
        (try simp only [Act.put, List.setIfInBounds_toArray, List.set_cons_zero, List.set_cons_succ])
        refine wpAnyH_ready (rs := [4, 8]) (by kernel_rfl) (by simp) ?_
        refine AllReadyH.cons rfl (fun K hK => ?_) (AllReadyH.cons rfl (fun K hK => ?_) AllReadyH.nil)
        · clear hHeld
          go_simp
          go_at_call 44
          refine (HAd.out _).mono ?_
          rintro e Y4 ⟨rfl, hb⟩
          have HB4 := Lib.hid (HB2.out.trans (hb.mono HB2.out.size))
          clear hb
          go_wp2_with fail
          refine hK.out _ _ ?_ (fun hHeld => ?_)
          · exact HB4.out
          clear hK K
          (try simp only [Act.put, List.setIfInBounds_toArray, List.set_cons_zero, List.set_cons_succ])
          refine wpAnyH_take (i := 5) (v := ?_) rfl (by kernel_rfl) (by kernel_rfl) (by kernel_rfl) (fun _ _ _ h => h) (Or.inl ⟨by kernel_rfl, ?_⟩) (by with_reducible assumption) ?_
          rotate_left
          · intro wz hSw
            (try dsimp only at hSw)
            go_simp
            (try with_reducible rfl)
          show wpAnyH _ _ _ _ _ _ _ (Act.put _ (some 26) _) _
          (try simp only [Act.put, List.setIfInBounds_toArray, List.set_cons_zero, List.set_cons_succ])
          refine wpAnyH_take (i := 6) (v := ?_) rfl (by kernel_rfl) (by kernel_rfl) (by kernel_rfl) (fun _ _ _ h => h) (Or.inl ⟨by kernel_rfl, ?_⟩) (by with_reducible assumption) ?_
          rotate_left
          · intro wz hSw
            (try dsimp only at hSw)
            go_simp
            (try with_reducible rfl)
          show wpAnyH _ _ _ _ _ _ _ (Act.put _ (some 32) _) _
          (try simp only [Act.put, List.setIfInBounds_toArray, List.set_cons_zero, List.set_cons_succ])
          refine wpAnyH_take (i := 7) (v := ?_) rfl (by kernel_rfl) (by kernel_rfl) (by kernel_rfl) (fun _ _ _ h => h) (Or.inl ⟨by kernel_rfl, ?_⟩) (by with_reducible assumption) ?_
          rotate_left
          · intro wz hSw
            (try dsimp only at hSw)
            go_simp
            (try with_reducible rfl)
          show wpAnyH _ _ _ _ _ _ _ (Act.put _ (some 33) _) _
          (try simp only [Act.put, List.setIfInBounds_toArray, List.set_cons_zero, List.set_cons_succ])
          refine wpAnyH_ready (rs := [8]) (by kernel_rfl) (by simp) ?_
          refine AllReadyH.cons rfl (fun K hK => ?_) AllReadyH.nil
          clear hHeld
          go_simp
          have HB8 := Lib.hid (HB4.out.alloc HB4.out.size (.cells #[.int .u64 0, .int .u64 0, .int .u64 0, .int .u64 0] 24))
          have F_n := Lib.hid (heap_alloc_new Y4 (.cells #[.int .u64 0, .int .u64 0, .int .u64 0, .int .u64 0] 24))
          obtain ⟨X, eX⟩ : ∃ y, y = Y4.heap.size := ⟨_, rfl⟩
          go_wp2_with fail
          refine hK.out _ _ ?_ (fun hHeld => ?_)
          · exact HB8.out
          clear hK K
          (try simp only [Act.put, List.setIfInBounds_toArray, List.set_cons_zero, List.set_cons_succ])
          rw [← eX] at F_n ⊢
          have LX := Lib.hid (show Wb.heap.size ≤ X from by rw [eX]; exact HB4.out.size)
          clear eX
          generalize Y4.alloc (.cells #[.int .u64 0, .int .u64 0, .int .u64 0, .int .u64 0] 24) = Y8 at HB8 F_n hHeld ⊢
          refine wpAnyH_ready (rs := [9]) (by kernel_rfl) (by simp) ?_
          refine AllReadyH.cons rfl (fun K hK => ?_) AllReadyH.nil
          clear hHeld
          have c0 := (hp_cell (i := 0) F_n.out).trans rfl
          have g0 := hp_free (i := 0) F_n.out
          have c1 := (hp_cell (i := 1) F_n.out).trans rfl
          have g1 := hp_free (i := 1) F_n.out
          have c2 := (hp_cell (i := 2) F_n.out).trans rfl
          have g2 := hp_free (i := 2) F_n.out
          have c3 := (hp_cell (i := 3) F_n.out).trans rfl
          have g3 := hp_free (i := 3) F_n.out
          go_simp
          clear c0 c1 c2 c3 g0 g1 g2 g3
          have HB9 := Lib.hid (show Below Wb.heap.size Wb ((((Y8.setCell ⟨X, 0, none⟩ (.int .u64 (limb v 0 : Nat))).setCell ⟨X, 1, none⟩ (.int .u64 (limb v 1 : Nat))).setCell ⟨X, 2, none⟩ (.int .u64 (limb v 2 : Nat))).setCell ⟨X, 3, none⟩ (.int .u64 (limb v 3 : Nat))) from ((((HB8.out.setCell LX.out _).setCell LX.out _).setCell LX.out _).setCell LX.out _))
          have SX := Lib.hid (set4b (.int .u64 (limb v 0 : Nat)) (.int .u64 (limb v 1 : Nat)) (.int .u64 (limb v 2 : Nat)) (.int .u64 (limb v 3 : Nat)) F_n.out (rfl : ((((Y8.setCell ⟨X, 0, none⟩ (.int .u64 (limb v 0 : Nat))).setCell ⟨X, 1, none⟩ (.int .u64 (limb v 1 : Nat))).setCell ⟨X, 2, none⟩ (.int .u64 (limb v 2 : Nat))).setCell ⟨X, 3, none⟩ (.int .u64 (limb v 3 : Nat))) = _))
          go_wp2_with fail
          refine hK.out _ _ ?_ (fun hHeld => ?_)
          · exact HB9.out
          clear hK K
          (try simp only [Act.put, List.setIfInBounds_toArray, List.set_cons_zero, List.set_cons_succ])
          generalize (((Y8.setCell ⟨X, 0, none⟩ (.int .u64 (limb v 0 : Nat))).setCell ⟨X, 1, none⟩ (.int .u64 (limb v 1 : Nat))).setCell ⟨X, 2, none⟩ (.int .u64 (limb v 2 : Nat))).setCell ⟨X, 3, none⟩ (.int .u64 (limb v 3 : Nat)) = Y9 at HB9 SX hHeld ⊢
          refine wpAnyH_take (i := 10) (v := ?_) rfl (by kernel_rfl) (by kernel_rfl) (by kernel_rfl) (fun _ _ _ h => h) (Or.inl ⟨by kernel_rfl, ?_⟩) (by with_reducible assumption) ?_
          rotate_left
          · intro wz hSw
            (try dsimp only at hSw)
            go_simp
            (try with_reducible rfl)
          show wpAnyH _ _ _ _ _ _ _ (Act.put _ (some 12) _) _
          (try simp only [Act.put, List.setIfInBounds_toArray, List.set_cons_zero, List.set_cons_succ])
          refine wpAnyH_done (by kernel_rfl) ?_ _
          go_wp2_with fail
          go_meet
          case rel => exact ⟨X, rfl, rfl, SX.out, HB9.out⟩
        · clear hHeld
          go_simp
          have HB8 := Lib.hid (HB2.out.alloc HB2.out.size (.cells #[.int .u64 0, .int .u64 0, .int .u64 0, .int .u64 0] 24))
          have F_n := Lib.hid (heap_alloc_new Y2 (.cells #[.int .u64 0, .int .u64 0, .int .u64 0, .int .u64 0] 24))
          obtain ⟨X, eX⟩ : ∃ y, y = Y2.heap.size := ⟨_, rfl⟩
          go_wp2_with fail
          refine hK.out _ _ ?_ (fun hHeld => ?_)
          · exact HB8.out
          clear hK K
          (try simp only [Act.put, List.setIfInBounds_toArray, List.set_cons_zero, List.set_cons_succ])
          rw [← eX] at F_n ⊢
          have LX := Lib.hid (show Wb.heap.size ≤ X from by rw [eX]; exact HB2.out.size)
          clear eX
          generalize Y2.alloc (.cells #[.int .u64 0, .int .u64 0, .int .u64 0, .int .u64 0] 24) = Y8 at HB8 F_n hHeld ⊢
          refine wpAnyH_ready (rs := [4]) (by kernel_rfl) (by simp) ?_
          refine AllReadyH.cons rfl (fun K hK => ?_) AllReadyH.nil
          clear hHeld
          go_simp
          go_at_call 44
          refine (HAd.out _).mono ?_
          rintro e Y4 ⟨rfl, hb⟩
          have HB4 := Lib.hid (HB8.out.trans (hb.mono HB8.out.size))
          have F_4 := Lib.hid ((hb.block _ (hp_lt F_n.out)).trans F_n.out)
          clear hb
          go_wp2_with fail
          refine hK.out _ _ ?_ (fun hHeld => ?_)
          · exact HB4.out
          clear hK K
          (try simp only [Act.put, List.setIfInBounds_toArray, List.set_cons_zero, List.set_cons_succ])
          refine wpAnyH_take (i := 5) (v := ?_) rfl (by kernel_rfl) (by kernel_rfl) (by kernel_rfl) (fun _ _ _ h => h) (Or.inl ⟨by kernel_rfl, ?_⟩) (by with_reducible assumption) ?_
          rotate_left
          · intro wz hSw
            (try dsimp only at hSw)
            go_simp
            (try with_reducible rfl)
          show wpAnyH _ _ _ _ _ _ _ (Act.put _ (some 26) _) _
          (try simp only [Act.put, List.setIfInBounds_toArray, List.set_cons_zero, List.set_cons_succ])
          refine wpAnyH_take (i := 6) (v := ?_) rfl (by kernel_rfl) (by kernel_rfl) (by kernel_rfl) (fun _ _ _ h => h) (Or.inl ⟨by kernel_rfl, ?_⟩) (by with_reducible assumption) ?_
          rotate_left
          · intro wz hSw
            (try dsimp only at hSw)
            go_simp
            (try with_reducible rfl)
          show wpAnyH _ _ _ _ _ _ _ (Act.put _ (some 32) _) _
          (try simp only [Act.put, List.setIfInBounds_toArray, List.set_cons_zero, List.set_cons_succ])
          refine wpAnyH_take (i := 7) (v := ?_) rfl (by kernel_rfl) (by kernel_rfl) (by kernel_rfl) (fun _ _ _ h => h) (Or.inl ⟨by kernel_rfl, ?_⟩) (by with_reducible assumption) ?_
          rotate_left
          · intro wz hSw
            (try dsimp only at hSw)
            go_simp
            (try with_reducible rfl)
          show wpAnyH _ _ _ _ _ _ _ (Act.put _ (some 33) _) _
          (try simp only [Act.put, List.setIfInBounds_toArray, List.set_cons_zero, List.set_cons_succ])
          refine wpAnyH_ready (rs := [9]) (by kernel_rfl) (by simp) ?_
          refine AllReadyH.cons rfl (fun K hK => ?_) AllReadyH.nil
          clear hHeld
          have c0 := (hp_cell (i := 0) F_4.out).trans rfl
          have g0 := hp_free (i := 0) F_4.out
          have c1 := (hp_cell (i := 1) F_4.out).trans rfl
          have g1 := hp_free (i := 1) F_4.out
          have c2 := (hp_cell (i := 2) F_4.out).trans rfl
          have g2 := hp_free (i := 2) F_4.out
          have c3 := (hp_cell (i := 3) F_4.out).trans rfl
          have g3 := hp_free (i := 3) F_4.out
          go_simp
          clear c0 c1 c2 c3 g0 g1 g2 g3
          have HB9 := Lib.hid (show Below Wb.heap.size Wb ((((Y4.setCell ⟨X, 0, none⟩ (.int .u64 (limb v 0 : Nat))).setCell ⟨X, 1, none⟩ (.int .u64 (limb v 1 : Nat))).setCell ⟨X, 2, none⟩ (.int .u64 (limb v 2 : Nat))).setCell ⟨X, 3, none⟩ (.int .u64 (limb v 3 : Nat))) from ((((HB4.out.setCell LX.out _).setCell LX.out _).setCell LX.out _).setCell LX.out _))
          have SX := Lib.hid (set4b (.int .u64 (limb v 0 : Nat)) (.int .u64 (limb v 1 : Nat)) (.int .u64 (limb v 2 : Nat)) (.int .u64 (limb v 3 : Nat)) F_4.out (rfl : ((((Y4.setCell ⟨X, 0, none⟩ (.int .u64 (limb v 0 : Nat))).setCell ⟨X, 1, none⟩ (.int .u64 (limb v 1 : Nat))).setCell ⟨X, 2, none⟩ (.int .u64 (limb v 2 : Nat))).setCell ⟨X, 3, none⟩ (.int .u64 (limb v 3 : Nat))) = _))
          go_wp2_with fail
          refine hK.out _ _ ?_ (fun hHeld => ?_)
          · exact HB9.out
          clear hK K
          (try simp only [Act.put, List.setIfInBounds_toArray, List.set_cons_zero, List.set_cons_succ])
          generalize (((Y4.setCell ⟨X, 0, none⟩ (.int .u64 (limb v 0 : Nat))).setCell ⟨X, 1, none⟩ (.int .u64 (limb v 1 : Nat))).setCell ⟨X, 2, none⟩ (.int .u64 (limb v 2 : Nat))).setCell ⟨X, 3, none⟩ (.int .u64 (limb v 3 : Nat)) = Y9 at HB9 SX hHeld ⊢
          refine wpAnyH_take (i := 10) (v := ?_) rfl (by kernel_rfl) (by kernel_rfl) (by kernel_rfl) (fun _ _ _ h => h) (Or.inl ⟨by kernel_rfl, ?_⟩) (by with_reducible assumption) ?_
          rotate_left
          · intro wz hSw
            (try dsimp only at hSw)
            go_simp
            (try with_reducible rfl)
          show wpAnyH _ _ _ _ _ _ _ (Act.put _ (some 12) _) _
          (try simp only [Act.put, List.setIfInBounds_toArray, List.set_cons_zero, List.set_cons_succ])
          refine wpAnyH_done (by kernel_rfl) ?_ _
          go_wp2_with fail
          go_meet
          case rel => exact ⟨X, rfl, rfl, SX.out, HB9.out⟩
      · clear hHeld
        go_simp
        have HB8 := Lib.hid (HY0.out.alloc HY0.out.size (.cells #[.int .u64 0, .int .u64 0, .int .u64 0, .int .u64 0] 24))
        have F_n := Lib.hid (heap_alloc_new Y0 (.cells #[.int .u64 0, .int .u64 0, .int .u64 0, .int .u64 0] 24))
        obtain ⟨X, eX⟩ : ∃ y, y = Y0.heap.size := ⟨_, rfl⟩
        go_wp2_with fail
        refine hK.out _ _ ?_ (fun hHeld => ?_)
        · exact HB8.out
        clear hK K
        (try simp only [Act.put, List.setIfInBounds_toArray, List.set_cons_zero, List.set_cons_succ])
        rw [← eX] at F_n ⊢
        have LX := Lib.hid (show Wb.heap.size ≤ X from by rw [eX]; exact HY0.out.size)
        clear eX
        generalize Y0.alloc (.cells #[.int .u64 0, .int .u64 0, .int .u64 0, .int .u64 0] 24) = Y8 at HB8 F_n hHeld ⊢
        refine wpAnyH_ready (rs := [2]) (by kernel_rfl) (by simp) ?_
        refine AllReadyH.cons rfl (fun K hK => ?_) AllReadyH.nil
        clear hHeld
        go_simp
        go_at_call 45
        refine (HA2.out _ (HBc.out.trans (HB8.out.mono HBc.out.size))).mono ?_
        rintro e Y2 ⟨rfl, hb⟩
        have HB2 := Lib.hid (HB8.out.trans (hb.mono HB8.out.size))
        have F_2 := Lib.hid ((hb.block _ (hp_lt F_n.out)).trans F_n.out)
        clear hb
        go_wp2_with fail
        refine hK.out _ _ ?_ (fun hHeld => ?_)
        · exact HB2.out
        clear hK K
        (try simp only [Act.put, List.setIfInBounds_toArray, List.set_cons_zero, List.set_cons_succ])
        refine wpAnyH_ready (rs := [4]) (by kernel_rfl) (by simp) ?_
        refine AllReadyH.cons rfl (fun K hK => ?_) AllReadyH.nil
        clear hHeld
        go_simp
        go_at_call 44
        refine (HAd.out _).mono ?_
        rintro e Y4 ⟨rfl, hb⟩
        have HB4 := Lib.hid (HB2.out.trans (hb.mono HB2.out.size))
        have F_4 := Lib.hid ((hb.block _ (hp_lt F_2.out)).trans F_2.out)
        clear hb
        go_wp2_with fail
        refine hK.out _ _ ?_ (fun hHeld => ?_)
        · exact HB4.out
        clear hK K
        (try simp only [Act.put, List.setIfInBounds_toArray, List.set_cons_zero, List.set_cons_succ])
        refine wpAnyH_take (i := 5) (v := ?_) rfl (by kernel_rfl) (by kernel_rfl) (by kernel_rfl) (fun _ _ _ h => h) (Or.inl ⟨by kernel_rfl, ?_⟩) (by with_reducible assumption) ?_
        rotate_left
        · intro wz hSw
          (try dsimp only at hSw)
          go_simp
          (try with_reducible rfl)
        show wpAnyH _ _ _ _ _ _ _ (Act.put _ (some 26) _) _
        (try simp only [Act.put, List.setIfInBounds_toArray, List.set_cons_zero, List.set_cons_succ])
        refine wpAnyH_take (i := 6) (v := ?_) rfl (by kernel_rfl) (by kernel_rfl) (by kernel_rfl) (fun _ _ _ h => h) (Or.inl ⟨by kernel_rfl, ?_⟩) (by with_reducible assumption) ?_
        rotate_left
        · intro wz hSw
          (try dsimp only at hSw)
          go_simp
          (try with_reducible rfl)
        show wpAnyH _ _ _ _ _ _ _ (Act.put _ (some 32) _) _
        (try simp only [Act.put, List.setIfInBounds_toArray, List.set_cons_zero, List.set_cons_succ])
        refine wpAnyH_take (i := 7) (v := ?_) rfl (by kernel_rfl) (by kernel_rfl) (by kernel_rfl) (fun _ _ _ h => h) (Or.inl ⟨by kernel_rfl, ?_⟩) (by with_reducible assumption) ?_
        rotate_left
        · intro wz hSw
          (try dsimp only at hSw)
          go_simp
          (try with_reducible rfl)
        show wpAnyH _ _ _ _ _ _ _ (Act.put _ (some 33) _) _
        (try simp only [Act.put, List.setIfInBounds_toArray, List.set_cons_zero, List.set_cons_succ])
        refine wpAnyH_ready (rs := [9]) (by kernel_rfl) (by simp) ?_
        refine AllReadyH.cons rfl (fun K hK => ?_) AllReadyH.nil
        clear hHeld
        have c0 := (hp_cell (i := 0) F_4.out).trans rfl
        have g0 := hp_free (i := 0) F_4.out
        have c1 := (hp_cell (i := 1) F_4.out).trans rfl
        have g1 := hp_free (i := 1) F_4.out
        have c2 := (hp_cell (i := 2) F_4.out).trans rfl
        have g2 := hp_free (i := 2) F_4.out
        have c3 := (hp_cell (i := 3) F_4.out).trans rfl
        have g3 := hp_free (i := 3) F_4.out
        go_simp
        clear c0 c1 c2 c3 g0 g1 g2 g3
        have HB9 := Lib.hid (show Below Wb.heap.size Wb ((((Y4.setCell ⟨X, 0, none⟩ (.int .u64 (limb v 0 : Nat))).setCell ⟨X, 1, none⟩ (.int .u64 (limb v 1 : Nat))).setCell ⟨X, 2, none⟩ (.int .u64 (limb v 2 : Nat))).setCell ⟨X, 3, none⟩ (.int .u64 (limb v 3 : Nat))) from ((((HB4.out.setCell LX.out _).setCell LX.out _).setCell LX.out _).setCell LX.out _))
        have SX := Lib.hid (set4b (.int .u64 (limb v 0 : Nat)) (.int .u64 (limb v 1 : Nat)) (.int .u64 (limb v 2 : Nat)) (.int .u64 (limb v 3 : Nat)) F_4.out (rfl : ((((Y4.setCell ⟨X, 0, none⟩ (.int .u64 (limb v 0 : Nat))).setCell ⟨X, 1, none⟩ (.int .u64 (limb v 1 : Nat))).setCell ⟨X, 2, none⟩ (.int .u64 (limb v 2 : Nat))).setCell ⟨X, 3, none⟩ (.int .u64 (limb v 3 : Nat))) = _))
        go_wp2_with fail
        refine hK.out _ _ ?_ (fun hHeld => ?_)
        · exact HB9.out
        clear hK K
        (try simp only [Act.put, List.setIfInBounds_toArray, List.set_cons_zero, List.set_cons_succ])
        generalize (((Y4.setCell ⟨X, 0, none⟩ (.int .u64 (limb v 0 : Nat))).setCell ⟨X, 1, none⟩ (.int .u64 (limb v 1 : Nat))).setCell ⟨X, 2, none⟩ (.int .u64 (limb v 2 : Nat))).setCell ⟨X, 3, none⟩ (.int .u64 (limb v 3 : Nat)) = Y9 at HB9 SX hHeld ⊢
        refine wpAnyH_take (i := 10) (v := ?_) rfl (by kernel_rfl) (by kernel_rfl) (by kernel_rfl) (fun _ _ _ h => h) (Or.inl ⟨by kernel_rfl, ?_⟩) (by with_reducible assumption) ?_
        rotate_left
        · intro wz hSw
          (try dsimp only at hSw)
          go_simp
          (try with_reducible rfl)
        show wpAnyH _ _ _ _ _ _ _ (Act.put _ (some 12) _) _
        (try simp only [Act.put, List.setIfInBounds_toArray, List.set_cons_zero, List.set_cons_succ])
        refine wpAnyH_done (by kernel_rfl) ?_ _
        go_wp2_with fail
        go_meet
        case rel => exact ⟨X, rfl, rfl, SX.out, HB9.out⟩
    case rest =>
      obtain ⟨B2, rfl, rfl, hB2, hbd⟩ := hcut
      have HBd := Lib.hid (HBc.out.trans (hbd.mono HBc.out.size))
      have HBB := Lib.hid (And.intro ((hbd.block _ (hp_lt HB1.out)).trans HB1.out) hB2)
      have d0 := (hp_cell (i := 0) hB2).trans rfl
      have d1 := (hp_cell (i := 1) hB2).trans rfl
      have d2 := (hp_cell (i := 2) hB2).trans rfl
      have d3 := (hp_cell (i := 3) hB2).trans rfl
      clear hB2 hbd
      go_wp2_with (first
        | (go_at_call 20; have g5 := H4; clear g5; refine (HS2.out _ H4.out.s).mono ?_; rintro e w5 ⟨rfl, h5⟩; have H5 := Lib.hid h5; clear h5)
        | (go_at_call 20; refine (HS1.out _ H3.out.1).mono ?_; rintro e w4 ⟨rfl, h4⟩; have H4 := Lib.hid h4; have r4 := (h4.keepT ⟨by decide, by decide⟩).2 _ _ _ H3.out.2.2; have d0 := (hp_cell (i := 0) r4).trans rfl; have d1 := (hp_cell (i := 1) r4).trans rfl; have d2 := (hp_cell (i := 2) r4).trans rfl; have d3 := (hp_cell (i := 3) r4).trans rfl; clear h4 r4)
        | (go_at_call 46; refine (HAm.out _).mono ?_; rintro e w3 ⟨rfl, hb3⟩; have H3 := Lib.hid (And.intro (HBd.out.trans (hb3.mono HBd.out.size)) (And.intro ((hb3.block _ (hp_lt HBB.out.1)).trans HBB.out.1) ((hb3.block _ (hp_lt HBB.out.2)).trans HBB.out.2))); have r3 := H3.out.2.1; clear d0 d1 d2 d3; have c0 := (hp_cell (i := 0) r3).trans rfl; have c1 := (hp_cell (i := 1) r3).trans rfl; have c2 := (hp_cell (i := 2) r3).trans rfl; have c3 := (hp_cell (i := 3) r3).trans rfl; clear hb3 r3))
      go_ret
      exact ⟨rfl, HPr.out _ _ _ H3.out.1 H4.out H5.out⟩
end Go.Proofs.YtnjcnlbphaodcaaGreat
