/- The bank's entries, plain: whose they are, what they add up to; what Mint and Pay leave. -/
import Derived.Test.YtffipojlpdphiaaGreatG26
import Derived.Test.YtffipojlpdphiaaGreatG28
import Derived.Test.YtffipojlpdphiaaGreatG41
import Derived.Test.YtffipojlpdphiaaGreatG27
namespace Go.Proofs.YtffipojlpdphiaaGreat
open Go.RowKit Go.Maps Go.Sort

abbrev kA (t a : Int) : ByteArray := keyStr 1 (two2 t a) 2
abbrev kS (t : Int) : ByteArray := keyStr 2 (fun _ => t) 1
abbrev kP (t : Int) : ByteArray := keyStr 1 (fun _ => t) 1
def okT (t : Int) : Prop := 1 ≤ t ∧ t ≤ 1000
def okA (a : Int) : Prop := 1 ≤ a ∧ a ≤ 4294967295
theorem two2_in {t a : Int} (ht : okT t) (ha : okA a) : ∀ i, i < 2 → 0 ≤ two2 t a i ∧ two2 t a i < 2 ^ 63 := by
  unfold okT at ht
  unfold okA at ha
  intro i hi
  rcases (by omega : i = 0 ∨ i = 1) with rfl | rfl
  · show 0 ≤ t ∧ t < 2 ^ 63; omega
  · show 0 ≤ a ∧ a < 2 ^ 63; omega
theorem one_in {t : Int} (ht : okT t) : ∀ i, i < 1 → 0 ≤ (fun _ : Nat => t) i ∧ (fun _ : Nat => t) i < 2 ^ 63 := by
  unfold okT at ht
  intro i _
  show 0 ≤ t ∧ t < 2 ^ 63
  omega
theorem pre_acc {t t' a : Int} (ht : okT t) (ht' : okT t') (ha : okA a) (v : ByteArray) : hpre (kP t) (kA t' a, v) = true ↔ t' = t := by
  refine (key_prefix (t := 1) (s := 1) (by omega) (by omega) (two2_in ht' ha) (one_in ht) (by omega) v).trans ⟨fun h => h.2 0 (by omega), fun h => ⟨rfl, fun i hi => ?_⟩⟩
  obtain rfl : i = 0 := by omega
  exact h
theorem pre_acc_no {s : Nat} {t t' a : Int} (hs : 1 ≤ s ∧ s ≤ 255) (h1 : s ≠ 1) (ht : okT t) (ht' : okT t') (ha : okA a) (v : ByteArray) : hpre (keyStr (s : Int) (fun _ => t) 1) (kA t' a, v) = false := by
  rw [Bool.eq_false_iff]
  intro h
  exact h1 ((key_prefix (t := 1) (s := s) (by omega) hs (two2_in ht' ha) (one_in ht) (by omega) v).1 h).1.symm
theorem pre_sup_no {s : Nat} {t t' : Int} (hs : 1 ≤ s ∧ s ≤ 255) (h1 : s ≠ 2) (ht : okT t) (ht' : okT t') (v : ByteArray) : hpre (keyStr (s : Int) (fun _ => t) 1) (kS t', v) = false := by
  rw [Bool.eq_false_iff]
  intro h
  exact h1 ((key_prefix (t := 2) (s := s) (by omega) hs (one_in ht') (one_in ht) (by omega) v).1 h).1.symm
theorem kA_inj {t t' a a' : Int} (ht : okT t) (ht' : okT t') (ha : okA a) (ha' : okA a') (h : kA t a = kA t' a') : t = t' ∧ a = a' := by
  have := (key_inj (t := 1) (s := 1) (by omega) (by omega) (two2_in ht ha) (two2_in ht' ha') h).2.2
  exact ⟨this 0 (by omega), this 1 (by omega)⟩
theorem kS_inj {t t' : Int} (ht : okT t) (ht' : okT t') (h : kS t = kS t') : t = t' := (key_inj (t := 2) (s := 2) (by omega) (by omega) (one_in ht) (one_in ht') h).2.2 0 (by omega)
theorem kS_kA {t t' a : Int} (ht : okT t) (ht' : okT t') (ha : okA a) : kS t ≠ kA t' a := fun h => by
  have := (key_inj (t := 2) (s := 1) (by omega) (by omega) (one_in ht) (two2_in ht' ha) h).1
  omega
theorem kA_ne {t a : Int} (ht : okT t) (ha : okA a) : kA t a ≠ ⟨#[]⟩ := key_ne (t := 1) (by omega) (fun i hi => (two2_in ht ha i hi).1)
theorem kS_ne {t : Int} (ht : okT t) : kS t ≠ ⟨#[]⟩ := key_ne (t := 2) (by omega) (fun i hi => (one_in ht i hi).1)
theorem kA_size (t a : Int) : (kA t a).size ≤ maxLen := by have := keyStr_size 1 (two2 t a) 2; show (keyStr 1 (two2 t a) 2).size ≤ maxLen; unfold maxLen; omega
theorem kS_size (t : Int) : (kS t).size ≤ maxLen := by have := keyStr_size 2 (fun _ => t) 1; show (keyStr 2 (fun _ => t) 1).size ≤ maxLen; unfold maxLen; omega
/-- an entry of the bank -/
def BKey (p : ByteArray × ByteArray) : Prop := (∃ t a n, okT t ∧ okA a ∧ n < 2 ^ 256 ∧ p = (kA t a, amtStr n)) ∨ ∃ t n, okT t ∧ n < 2 ^ 256 ∧ p = (kS t, amtStr n)
structure BM (L : SL) : Prop where
  r : Rising (skeys L)
  z : SzOk L
  sh : ∀ p ∈ L, BKey p
  inv : ∀ t, okT t → amt L (kS t) = sumU L (kP t) ∧ sumU L (kP t) ≤ MOST
theorem BM.nil : BM [] := ⟨List.Pairwise.nil, fun p hp => (by cases hp), fun p hp => (by cases hp), fun t _ => ⟨by unfold amt; exact fbv_nil, Nat.zero_le _⟩⟩
theorem sget_mem {L : SL} {k v : ByteArray} (h : sget L k = some v) : (k, v) ∈ L := by
  unfold sget at h
  cases hf : L.find? (fun p => keq p.1 k) with
  | none => rw [hf] at h; cases h
  | some p =>
    rw [hf] at h
    have h1 := List.mem_of_find?_eq_some hf
    have h2 := List.find?_some hf
    have h3 : p.2 = v := Option.some.inj h
    rw [← keq_iff.1 h2, ← h3]
    exact h1
theorem BM.at_ {L : SL} (h : BM L) (K : ByteArray) : amtAt L K (amt L K) := by
  unfold amt amtAt
  cases hs : sget L K with
  | none => exact .inl ⟨fbv_nil, rfl⟩
  | some v =>
    right
    obtain ⟨n, hn, hv⟩ : ∃ n, n < 2 ^ 256 ∧ v = amtStr n := by
      rcases h.sh _ (sget_mem hs) with ⟨t, a, n, _, _, hn, e⟩ | ⟨t, n, _, hn, e⟩
      · cases e; exact ⟨n, hn, rfl⟩
      · cases e; exact ⟨n, hn, rfl⟩
    rw [hv]
    show some (amtStr n) = some (amtStr (fbv (amtStr n)))
    rw [amt_fbv n hn]
theorem amt_le_sumU {L : SL} (hr : Rising (skeys L)) {k x : ByteArray} (h : hpre x (k, ⟨#[]⟩) = true) : amt L k ≤ sumU L x := by
  have := sumU_setA hr k x 0 (by decide)
  rw [if_pos h, if_pos h] at this
  omega
theorem amt_two_le {L : SL} (hr : Rising (skeys L)) {k k' x : ByteArray} (hne : k' ≠ k) (h : hpre x (k, ⟨#[]⟩) = true) (h' : hpre x (k', ⟨#[]⟩) = true) : amt L k + amt L k' ≤ sumU L x := by
  have h1 := sumU_setA hr k x 0 (by decide)
  rw [if_pos h, if_pos h] at h1
  have h2 := amt_le_sumU (rising_setA hr k 0) h'
  rw [amt_setA L k k' 0 (by decide), if_neg hne] at h2
  omega
/-- what Mint leaves -/
theorem BM.mint {L : SL} (h : BM L) {t a : Int} (ht : okT t) (ha : okA a) (n : Nat) (hn : amt L (kS t) + n ≤ MOST) : BM (setA (setA L (kS t) (amt L (kS t) + n)) (kA t a) (amt L (kA t a) + n)) ∧ amt L (kA t a) + n ≤ MOST ∧ amt (setA L (kS t) (amt L (kS t) + n)) (kA t a) = amt L (kA t a) := by
  have hm := MOST_lt
  have hi := h.inv t ht
  have hb : amt L (kA t a) ≤ sumU L (kP t) := amt_le_sumU h.r ((pre_acc ht ht ha _).2 rfl)
  have hB : amt L (kA t a) + n ≤ MOST := by omega
  have hSn : amt L (kS t) + n < 2 ^ 256 := by omega
  have hBn : amt L (kA t a) + n < 2 ^ 256 := by omega
  obtain ⟨S, eS⟩ : ∃ S, S = amt L (kS t) := ⟨_, rfl⟩
  obtain ⟨B, eB⟩ : ∃ B, B = amt L (kA t a) := ⟨_, rfl⟩
  rw [← eS] at hn hSn hi ⊢
  rw [← eB] at hB hBn hb ⊢
  have hr1 := rising_setA h.r (kS t) (S + n)
  have e1 : amt (setA L (kS t) (S + n)) (kA t a) = B := by rw [amt_setA _ _ _ _ hSn, if_neg (fun e => kS_kA ht ht ha e.symm), eB]
  refine ⟨⟨rising_setA hr1 _ _, (h.z.setA (kS_size t)).setA (kA_size t a), fun p hp => ?_, fun t' ht' => ?_⟩, hB, e1⟩
  · rcases mem_setA hr1 hp with hp | ⟨rfl, _⟩
    · rcases mem_setA h.r hp with hp | ⟨rfl, _⟩
      · exact h.sh p hp
      · exact .inr ⟨t, S + n, ht, hSn, rfl⟩
    · exact .inl ⟨t, a, B + n, ht, ha, hBn, rfl⟩
  · have s1 := sumU_setA h.r (kS t) (kP t') (S + n) hSn
    have hq : hpre (kP t') (kS t, ⟨#[]⟩) = false := pre_sup_no (s := 1) (by omega) (by omega) ht' ht _
    rw [if_neg (by rw [hq]; decide), if_neg (by rw [hq]; decide)] at s1
    have s2 := sumU_setA hr1 (kA t a) (kP t') (B + n) hBn
    rw [e1] at s2
    have hi' := h.inv t' ht'
    rw [amt_setA _ _ _ _ hBn, if_neg (kS_kA ht' ht ha), amt_setA _ _ _ _ hSn]
    by_cases e : t = t'
    · subst e
      have hp := (pre_acc (v := ⟨#[]⟩) ht ht ha).2 rfl
      rw [if_pos hp, if_pos hp] at s2
      rw [if_pos rfl]
      omega
    · have hp : ¬ hpre (kP t') (kA t a, ⟨#[]⟩) = true := fun hh => e ((pre_acc ht' ht ha _).1 hh)
      rw [if_neg hp, if_neg hp] at s2
      rw [if_neg (fun hh => e (kS_inj ht' ht hh).symm)]
      omega
/-- what Pay leaves -/
theorem BM.pay {L : SL} (h : BM L) {t a c : Int} (ht : okT t) (ha : okA a) (hc : okA c) (hne : a ≠ c) (n : Nat) (hn : n ≤ amt L (kA t a)) :
    BM (setA (setA L (kA t c) (amt L (kA t c) + n)) (kA t a) (amt L (kA t a) - n)) ∧ amt L (kA t c) + n ≤ MOST ∧ amt (setA L (kA t c) (amt L (kA t c) + n)) (kA t a) = amt L (kA t a) ∧
      setA (setA L (kA t a) (amt L (kA t a) - n)) (kA t c) (amt L (kA t c) + n) = setA (setA L (kA t c) (amt L (kA t c) + n)) (kA t a) (amt L (kA t a) - n) := by
  have hm := MOST_lt
  have hi := h.inv t ht
  have hk : kA t c ≠ kA t a := fun e => hne (kA_inj ht ht hc ha e).2.symm
  have h2 := amt_two_le h.r hk ((pre_acc ht ht ha ⟨#[]⟩).2 rfl) ((pre_acc ht ht hc ⟨#[]⟩).2 rfl)
  have hX := amt_lt L (kA t a)
  obtain ⟨X, eX⟩ : ∃ X, X = amt L (kA t a) := ⟨_, rfl⟩
  obtain ⟨Y, eY⟩ : ∃ Y, Y = amt L (kA t c) := ⟨_, rfl⟩
  rw [← eX] at hn h2 hX ⊢
  rw [← eY] at h2 ⊢
  have hYn : Y + n ≤ MOST := by omega
  have hY2 : Y + n < 2 ^ 256 := by omega
  have hX2 : X - n < 2 ^ 256 := by omega
  have hr1 := rising_setA h.r (kA t c) (Y + n)
  have e1 : amt (setA L (kA t c) (Y + n)) (kA t a) = X := by rw [amt_setA _ _ _ _ hY2, if_neg (fun e => hk e.symm), eX]
  refine ⟨⟨rising_setA hr1 _ _, (h.z.setA (kA_size t c)).setA (kA_size t a), fun p hp => ?_, fun t' ht' => ?_⟩, hYn, e1, ?_⟩
  · rcases mem_setA hr1 hp with hp | ⟨rfl, _⟩
    · rcases mem_setA h.r hp with hp | ⟨rfl, _⟩
      · exact h.sh p hp
      · exact .inl ⟨t, c, Y + n, ht, hc, hY2, rfl⟩
    · exact .inl ⟨t, a, X - n, ht, ha, hX2, rfl⟩
  · have s1 := sumU_setA h.r (kA t c) (kP t') (Y + n) hY2
    have s2 := sumU_setA hr1 (kA t a) (kP t') (X - n) hX2
    rw [e1] at s2
    rw [← eY] at s1
    have hi' := h.inv t' ht'
    rw [amt_setA _ _ _ _ hX2, if_neg (kS_kA ht' ht ha), amt_setA _ _ _ _ hY2, if_neg (kS_kA ht' ht hc)]
    by_cases e : t = t'
    · subst e
      have hp := (pre_acc (v := ⟨#[]⟩) ht ht ha).2 rfl
      have hp2 := (pre_acc (v := ⟨#[]⟩) ht ht hc).2 rfl
      rw [if_pos hp, if_pos hp] at s2
      rw [if_pos hp2, if_pos hp2] at s1
      omega
    · have hp : ¬ hpre (kP t') (kA t a, ⟨#[]⟩) = true := fun hh => e ((pre_acc ht' ht ha _).1 hh)
      have hp2 : ¬ hpre (kP t') (kA t c, ⟨#[]⟩) = true := fun hh => e ((pre_acc ht' ht hc _).1 hh)
      rw [if_neg hp, if_neg hp] at s2
      rw [if_neg hp2, if_neg hp2] at s1
      omega
  · refine sl_ext _ _ (rising_setA (rising_setA h.r _ _) _ _) (rising_setA hr1 _ _) fun k => ?_
    rw [sget_setA, sget_setA, sget_setA, sget_setA]
    by_cases h1 : k = kA t c
    · rw [if_pos h1, if_neg (fun e => hk (h1.symm.trans e)), if_pos h1]
    · rw [if_neg h1, if_neg h1]
/-- the sum of the four tables is that of the accounts -/
theorem filter_no {L : SL} {x : ByteArray} (h : ∀ p ∈ L, hpre x p = false) : L.filter (hpre x) = [] := List.filter_eq_nil_iff.2 fun p hp hh => by rw [h p hp] at hh; cases hh
theorem BM.no {L : SL} (h : BM L) {s : Nat} {t : Int} (hs : 1 ≤ s ∧ s ≤ 255) (h1 : s ≠ 1) (h2 : s ≠ 2) (ht : okT t) : L.filter (hpre (keyStr (s : Int) (fun _ => t) 1)) = [] := by
  refine filter_no fun p hp => ?_
  rcases h.sh p hp with ⟨t', a, n, ht', ha, _, rfl⟩ | ⟨t', n, ht', _, rfl⟩
  · exact pre_acc_no hs h1 ht ht' ha _
  · exact pre_sup_no hs h2 ht ht' _
theorem BM.total {L : SL} (h : BM L) {t : Int} (ht : okT t) : amT (fun i => L.filter (hpre (bgs (keyStr 1 (fun _ => t) 1) (keyStr 3 (fun _ => t) 1) (keyStr 4 (fun _ => t) 1) (keyStr 6 (fun _ => t) 1) i))) 4 = sumU L (kP t) := by
  show 0 + amS (L.filter (hpre (keyStr 1 (fun _ => t) 1))) + amS (L.filter (hpre (keyStr 3 (fun _ => t) 1))) + amS (L.filter (hpre (keyStr 4 (fun _ => t) 1))) + amS (L.filter (hpre (keyStr 6 (fun _ => t) 1))) = _
  have e3 : L.filter (hpre (keyStr 3 (fun _ => t) 1)) = [] := h.no (s := 3) (by omega) (by omega) (by omega) ht
  have e4 : L.filter (hpre (keyStr 4 (fun _ => t) 1)) = [] := h.no (s := 4) (by omega) (by omega) (by omega) ht
  have e6 : L.filter (hpre (keyStr 6 (fun _ => t) 1)) = [] := h.no (s := 6) (by omega) (by omega) (by omega) ht
  rw [e3, e4, e6]
  show 0 + sumU L (kP t) + 0 + 0 + 0 = _
  omega
end Go.Proofs.YtffipojlpdphiaaGreat

namespace Go.Proofs.YtffipojlpdphiaaGreat
open Go.RowKit Go.Maps Go.Sort

def KS1 : ByteArray := ⟨#[2, 0, 0, 0, 0, 0, 0, 0, 1]⟩
def KA7 : ByteArray := ⟨#[1, 0, 0, 0, 0, 0, 0, 0, 1, 0, 0, 0, 0, 0, 0, 0, 7]⟩
def KA8 : ByteArray := ⟨#[1, 0, 0, 0, 0, 0, 0, 0, 1, 0, 0, 0, 0, 0, 0, 0, 8]⟩
def KP1 : ByteArray := ⟨#[1, 0, 0, 0, 0, 0, 0, 0, 1]⟩
def KP3 : ByteArray := ⟨#[3, 0, 0, 0, 0, 0, 0, 0, 1]⟩
def KP4 : ByteArray := ⟨#[4, 0, 0, 0, 0, 0, 0, 0, 1]⟩
def KP6 : ByteArray := ⟨#[6, 0, 0, 0, 0, 0, 0, 0, 1]⟩
theorem keyS1 : keyStr 2 (fun _ => 1) 1 = KS1 := by decide +kernel
theorem keyA7 : keyStr 1 (two2 1 7) 2 = KA7 := by decide +kernel
theorem keyA8 : keyStr 1 (two2 1 8) 2 = KA8 := by decide +kernel
theorem keyP1 : keyStr 1 (fun _ => 1) 1 = KP1 := by decide +kernel
theorem keyP3 : keyStr 3 (fun _ => 1) 1 = KP3 := by decide +kernel
theorem keyP4 : keyStr 4 (fun _ => 1) 1 = KP4 := by decide +kernel
theorem keyP6 : keyStr 6 (fun _ => 1) 1 = KP6 := by decide +kernel
def BL1 : SL := setA [] KS1 (0 + 100)
def BL2 : SL := setA BL1 KA7 (0 + 100)
def BL3 : SL := setA BL2 KA8 (0 + 30)
def BL4 : SL := setA BL3 KA7 (100 - 30)
theorem bl1 : amtAt BL1 KA7 0 := .inl ⟨rfl, by decide +kernel⟩
theorem bl2a : amtAt BL2 KA7 100 := .inr (by decide +kernel)
theorem bl2b : amtAt BL2 KA8 0 := .inl ⟨rfl, by decide +kernel⟩
theorem bl3 : amtAt BL3 KA7 100 := .inr (by decide +kernel)
theorem bl4 : amtAt BL4 KA7 70 := .inr (by decide +kernel)
theorem bl4t : amT (fun i => under BL4 (bgs KP1 KP3 KP4 KP6 i)) 4 = 100 := by decide +kernel
theorem bl4k : ∀ p ∈ BL4, p.1.size ≤ maxLen := by decide +kernel
theorem v100 : U 100 = .agg #[.int .u64 100, .int .u64 0, .int .u64 0, .int .u64 0] := by unfold U; rw [show limb 100 0 = 100 by decide, show limb 100 1 = 0 by decide, show limb 100 2 = 0 by decide, show limb 100 3 = 0 by decide]; rfl
theorem v30 : U 30 = .agg #[.int .u64 30, .int .u64 0, .int .u64 0, .int .u64 0] := by unfold U; rw [show limb 30 0 = 30 by decide, show limb 30 1 = 0 by decide, show limb 30 2 = 0 by decide, show limb 30 3 = 0 by decide]; rfl
theorem v70 : U 70 = .agg #[.int .u64 70, .int .u64 0, .int .u64 0, .int .u64 0] := by unfold U; rw [show limb 70 0 = 70 by decide, show limb 70 1 = 0 by decide, show limb 70 2 = 0 by decide, show limb 70 3 = 0 by decide]; rfl
set_option maxRecDepth 100000 in
set_option maxHeartbeats 4000000 in
theorem lives17_walk (w : World) : Calls Tryz.prog 4 #[] w fun e w' => e = .returned (.bool true) ∧ Below w.heap.size w w' := by
  have D1 := Lib.hid (fun (W W1 : World) (b : Nat) (F : List Nat) (hl : LiveTo w W W1 b F [] 0) => show Calls Tryz.prog 15 #[.pointer (some ⟨b, 0, none⟩), .int .i64 1, .int .i64 7, .agg #[.int .u64 100, .int .u64 0, .int .u64 0, .int .u64 0]] W1 fun e W2 => e = .returned (.int .i64 0) ∧ LiveTo w W W2 b F BL2 2 from by
    have := hl.seq 2 (fun F1 qa qsa hs hqa => mint_live hs 1 7 100 KS1 KA7 (by decide) (by decide) keyS1 keyA7 (by decide) (by decide) (by decide) (by decide) (.inl ⟨rfl, rfl⟩) bl1 (by decide) (by decide +kernel) (by omega))
    rw [v100] at this
    exact this)
  have D2 := Lib.hid (fun (W W1 : World) (b : Nat) (F : List Nat) (hl : LiveTo w W W1 b F BL2 2) => show Calls Tryz.prog 16 #[.pointer (some ⟨b, 0, none⟩), .int .i64 1, .int .i64 7, .int .i64 8, .agg #[.int .u64 30, .int .u64 0, .int .u64 0, .int .u64 0]] W1 fun e W2 => e = .returned (.int .i64 0) ∧ LiveTo w W W2 b F BL4 4 from by
    have := hl.seq 2 (fun F1 qa qsa hs hqa => pay_live hs 1 7 8 100 0 30 KA7 KA8 (by decide) (by decide) keyA7 keyA8 (by decide) (by decide) (by decide) (by decide) (by decide) bl2a bl2b bl3 (by decide) (by decide) (by decide) (by decide) (by decide) (by decide +kernel) (by decide +kernel) (by omega))
    rw [v30] at this
    exact this)
  have D3 := Lib.hid (fun (W W1 : World) (b : Nat) (F : List Nat) (hl : LiveTo w W W1 b F BL4 4) => show Calls Tryz.prog 9 #[.pointer (some ⟨b, 0, none⟩), .int .i64 1] W1 fun e W2 => e = .returned (.tuple #[.agg #[.int .u64 100, .int .u64 0, .int .u64 0, .int .u64 0], .bool true]) ∧ LiveTo w W W2 b F BL4 4 ∧ Below W1.heap.size W1 W2 from by
    have := hl.read (fun F1 qa qsa hs hqa => total_live hs 1 KP1 KP3 KP4 KP6 (by decide) keyP1 keyP3 keyP4 keyP6 bl4k (by decide +kernel) 100 bl4t (by decide))
    rw [v100] at this
    exact this)
  have D4 := Lib.hid (fun (W W1 : World) (b : Nat) (F : List Nat) (hl : LiveTo w W W1 b F BL4 4) => show Calls Tryz.prog 7 #[.pointer (some ⟨b, 0, none⟩), .int .i64 1, .int .i64 7] W1 fun e W2 => e = .returned (.agg #[.int .u64 70, .int .u64 0, .int .u64 0, .int .u64 0]) ∧ LiveTo w W W2 b F BL4 4 ∧ Below W1.heap.size W1 W2 from by
    have := hl.read (fun F1 qa qsa hs hqa => balance_of (some ⟨b, 0, none⟩) 1 7 70 KA7 keyA7 W1 (by decide) (by decide) (fun W2 hb2 => camount_at (hs.below hb2) KA7 70 (by decide) bl4 (by decide)))
    rw [v70] at this
    exact this)
  obtain ⟨r2, e2⟩ : ∃ x, x = BL2 := ⟨_, rfl⟩
  obtain ⟨r4, e4⟩ : ∃ x, x = BL4 := ⟨_, rfl⟩
  rw [← e2] at D1 D2
  rw [← e4] at D2 D3 D4
  clear e2 e4
  have q100 := fun w => eqU 100 0 0 0 100 0 0 0 w
  have q70 := fun w => eqU 70 0 0 0 70 0 0 0 w
  go_enter Tryz.func4, Tryz.ntmps4
  go_wp2_with (first
    | (go_at_call 7; with_reducible refine (D4.out _ _ _ _ (h4.out.al (.cells #[.int .u64 100, .int .u64 0, .int .u64 0, .int .u64 0] 33))).mono ?_; rintro e w5 ⟨rfl, hs5, hb5⟩; have h5 := Lib.hid hs5; have r5 := (hb5.block w4.heap.size (by simp)).trans (heap_alloc_new w4 (.cells #[.int .u64 100, .int .u64 0, .int .u64 0, .int .u64 0] 33)); have a0 := (hp_cell (i := 0) r5).trans rfl; have a1 := (hp_cell (i := 1) r5).trans rfl; have a2 := (hp_cell (i := 2) r5).trans rfl; have a3 := (hp_cell (i := 3) r5).trans rfl; clear hs5 hb5 r5)
    | (go_at_call 9; with_reducible refine (D3.out _ _ _ _ h3.out).mono ?_; rintro e w4 ⟨rfl, hs4, _⟩; have h4 := Lib.hid hs4; clear hs4)
    | (go_at_call 16; with_reducible refine (D2.out _ _ _ _ h2.out).mono ?_; rintro e w3 ⟨rfl, hs3⟩; have h3 := Lib.hid hs3; clear hs3)
    | (go_at_call 15; with_reducible refine (D1.out _ _ _ _ h1.out.start).mono ?_; rintro e w2 ⟨rfl, hs2⟩; have h2 := Lib.hid hs2; clear hs2)
    | (go_at_call 5; refine (SNew.new w _ (Below.refl _ _)).mono ?_; rintro e w1 ⟨b, F1, rfl, hs1, _, _⟩; have h1 := Lib.hid hs1; clear hs1))
  go_ret
  exact ⟨rfl, h5.out.l⟩
end Go.Proofs.YtffipojlpdphiaaGreat

namespace Go.Proofs.YtffipojlpdphiaaGreat
open Go.RowKit Go.Maps Go.Sort

theorem LiveTo.up {w W W' : World} {b : Nat} {F : List Nat} {L : SL} {q q' : Nat} (h : LiveTo w W W' b F L q) (hq : q ≤ q') : LiveTo w W W' b F L q' := by
  obtain ⟨F1, q1, qs1, g1, g2, g3⟩ := h
  exact ⟨F1, q1, qs1, g1, by omega, g3⟩
theorem bank_mint (w : World) (b m : Nat) (L : SL) (hM : BM L) (hN : L.length < 800000) (t a : Int) (n : Nat) (hn : n < 2 ^ 256) :
    ∃ (er : Int) (L2 : SL), BM L2 ∧ L2.length ≤ L.length + 2 ∧
      (∀ (W : World) (F : List Nat) (q : Nat) (qs : List Value), SNew w W b F L q qs → q < 800000 →
        Calls Tryz.prog 15 #[.pointer (some ⟨b, 0, none⟩), .int .i64 t, .int .i64 a, U n] W fun e W' => e = .returned (.int .i64 er) ∧ LiveTo w W W' b F L2 (q + 2)) ∧
      (∀ (W : World) (R : List Ch), DS w W m L R → R.length < 800000 →
        Calls Tryz.prog 17 #[.pointer (some ⟨m, 0, none⟩), .int .i64 t, .int .i64 a, U n] W fun e W' => e = .returned (.int .i64 er) ∧ ∃ R', R'.length ≤ R.length + 2 ∧ DSTo w W W' m L2 R') := by
  have hm := MOST_lt
  by_cases hg : (okT t ∧ okA a) ∧ n ≤ MOST
  · obtain ⟨⟨ht, ha⟩, hn1⟩ := hg
    have hgg : (1 ≤ t ∧ t ≤ 1000) ∧ 1 ≤ a ∧ a ≤ 4294967295 := ⟨ht, ha⟩
    have hS2 := amt_lt L (kS t)
    by_cases ho : amt L (kS t) + n ≤ MOST
    · obtain ⟨hB, hBn, e1⟩ := hM.mint ht ha n ho
      have hl1 := setA_le L (kS t) (amt L (kS t) + n)
      have hl2 := setA_le (setA L (kS t) (amt L (kS t) + n)) (kA t a) (amt L (kA t a) + n)
      have he1 : amtAt (setA L (kS t) (amt L (kS t) + n)) (kA t a) (amt L (kA t a)) := by
        have h1 := hM.at_ (kA t a)
        unfold amtAt at h1 ⊢
        rw [sget_setA, if_neg (fun e => kS_kA ht ht ha e.symm)]
        exact h1
      refine ⟨0, _, hB, by omega, fun W F q qs hs hq => ?_, fun W R hd hR => ?_⟩
      · exact mint_go hs t a n _ _ (kS t) (kA t a) hgg ho hBn rfl rfl (kS_size t) (kA_size t a) (kS_ne ht) (kA_ne ht ha) (hM.at_ _) he1 (by omega) (by omega) (by omega)
      · have hR1 := setAR_le L R (kS t) (amt L (kS t) + n)
        have hR2 := setAR_le (setA L (kS t) (amt L (kS t) + n)) (setAR L R (kS t) (amt L (kS t) + n)) (kA t a) (amt L (kA t a) + n)
        refine (rmint_walk w W m L _ R _ t a n 0 (kS t) (kA t a) hd hgg hn1 rfl rfl (fun _ w' => ∃ R', R'.length ≤ R.length + 2 ∧ DSTo w W w' m (setA (setA L (kS t) (amt L (kS t) + n)) (kA t a) (amt L (kA t a) + n)) R')
          (fun W1 hb => raddA_ok w W1 m L R (kS t) _ n (hd.below hb) hM.r (by omega) (by omega) (kS_ne ht) (hM.at_ _) hS2 hn ho) (fun h => absurd rfl h) (fun _ W1 hd1 => ?_)).mono fun e w' h => h
        refine (raddA_ok w W1 m _ _ (kA t a) _ n hd1 (rising_setA hM.r _ _) (by omega) (by omega) (kA_ne ht ha) he1 (amt_lt _ _) hn hBn).mono fun e w' h => ⟨h.1, fun W0 W2 h0 h2 h3 => ⟨_, by omega, (DSTo.pre hd h0 h2).trans (DSTo.pre h2.s h3 h.2)⟩⟩
    · refine ⟨6, L, hM, by omega, fun W F q qs hs hq => ?_, fun W R hd hR => ?_⟩
      · exact (mint_over hs t a n _ (kS t) hgg hn1 (by omega) hS2 rfl (kS_size t) (hM.at_ _)).mono fun e w' h => ⟨h.1, (hs.same h.2).up (by omega)⟩
      · refine (rmint_walk w W m L L R R t a n 6 (kS t) (kA t a) hd hgg hn1 rfl rfl (fun _ w' => ∃ R', R'.length ≤ R.length + 2 ∧ DSTo w W w' m L R')
          (fun W1 hb => raddA_over w W1 m L R (kS t) _ n (hd.below hb) hM.r (by omega) (by omega) (hM.at_ _) hS2 hn (by omega)) (fun _ W1 w' hb h5 => ⟨R, by omega, DSTo.pre hd hb h5⟩) (fun h => absurd h (by decide))).mono fun e w' h => h
  · refine ⟨2, L, hM, by omega, fun W F q qs hs hq => ?_, fun W R hd hR => ?_⟩
    · exact (mint_no _ t a n W hn hg).mono fun e w' h => ⟨h.1, (hs.same h.2).up (by omega)⟩
    · exact (rmint_no _ t a n W hn hg).mono fun e w' h => ⟨h.1, R, by omega, DSTo.of_below hd h.2⟩
theorem bank_pay (w : World) (b m : Nat) (L : SL) (hM : BM L) (hN : L.length < 800000) (t a c : Int) (n : Nat) (hn : n < 2 ^ 256) :
    ∃ (er : Int) (L2 : SL), BM L2 ∧ L2.length ≤ L.length + 2 ∧
      (∀ (W : World) (F : List Nat) (q : Nat) (qs : List Value), SNew w W b F L q qs → q < 800000 →
        Calls Tryz.prog 16 #[.pointer (some ⟨b, 0, none⟩), .int .i64 t, .int .i64 a, .int .i64 c, U n] W fun e W' => e = .returned (.int .i64 er) ∧ LiveTo w W W' b F L2 (q + 2)) ∧
      (∀ (W : World) (R : List Ch), DS w W m L R → R.length < 800000 →
        Calls Tryz.prog 18 #[.pointer (some ⟨m, 0, none⟩), .int .i64 t, .int .i64 a, .int .i64 c, U n] W fun e W' => e = .returned (.int .i64 er) ∧ ∃ R', R'.length ≤ R.length + 2 ∧ DSTo w W W' m L2 R') := by
  have hm := MOST_lt
  by_cases hg : (okT t ∧ okA a) ∧ okT t ∧ okA c
  · obtain ⟨⟨ht, ha⟩, _, hc⟩ := hg
    have hg1 : (1 ≤ t ∧ t ≤ 1000) ∧ 1 ≤ a ∧ a ≤ 4294967295 := ⟨ht, ha⟩
    have hg2 : (1 ≤ t ∧ t ≤ 1000) ∧ 1 ≤ c ∧ c ≤ 4294967295 := ⟨ht, hc⟩
    have hX := amt_lt L (kA t a)
    have hY := amt_lt L (kA t c)
    by_cases hx : n ≤ amt L (kA t a)
    · by_cases hac : a = c
      · subst hac
        refine ⟨0, L, hM, by omega, fun W F q qs hs hq => ?_, fun W R hd hR => ?_⟩
        · exact pay_with _ W t a a n 0 (kA t a) (kA t a) _ hg1 hg1 rfl rfl (fun X hb => (cmove_same (hs.below hb) (kA t a) (kA t a) _ n (kA_size t a) (hM.at_ _) hX hn hx rfl).mono fun e w' h => ⟨h.1, (hs.same (hb.trans (h.2.mono hb.size))).up (by omega)⟩)
        · exact rpay_with _ W t a a n 0 (kA t a) (kA t a) _ hg1 hg1 rfl rfl (fun X hb => (rmove_same w X m L R (kA t a) (kA t a) _ n (hd.below hb) hM.r (by omega) (hM.at_ _) hX hn hx rfl).mono fun e w' h => ⟨h.1, R, by omega, DSTo.pre hd hb h.2⟩)
      · obtain ⟨hB, hYn, e1, ec⟩ := hM.pay ht ha hc hac n hx
        have hk : kA t a ≠ kA t c := fun e => hac (kA_inj ht ht ha hc e).2
        have hl1 := setA_le L (kA t c) (amt L (kA t c) + n)
        have hl2 := setA_le (setA L (kA t c) (amt L (kA t c) + n)) (kA t a) (amt L (kA t a) - n)
        have he1 : amtAt (setA L (kA t c) (amt L (kA t c) + n)) (kA t a) (amt L (kA t a)) := by
          have h1 := hM.at_ (kA t a)
          unfold amtAt at h1 ⊢
          rw [sget_setA, if_neg hk]
          exact h1
        refine ⟨0, _, hB, by omega, fun W F q qs hs hq => ?_, fun W R hd hR => ?_⟩
        · exact pay_live hs t a c _ _ n (kA t a) (kA t c) hg1 hg2 rfl rfl (kA_size t a) (kA_ne ht ha) (kA_size t c) (kA_ne ht hc) hk (hM.at_ _) (hM.at_ _) he1 hX hY hn hx hYn (by omega) (by omega) (by omega)
        · have hR1 := setAR_le L R (kA t a) (amt L (kA t a) - n)
          have hR2 := setAR_le (setA L (kA t a) (amt L (kA t a) - n)) (setAR L R (kA t a) (amt L (kA t a) - n)) (kA t c) (amt L (kA t c) + n)
          refine rpay_with _ W t a c n 0 (kA t a) (kA t c) _ hg1 hg2 rfl rfl (fun X hb => (rmove_ok w X m L R (kA t a) (kA t c) _ n (hd.below hb) hM.r (by omega) (hM.at_ _) hX hn _ (by omega) hx hk (kA_ne ht ha) (kA_ne ht hc) (hM.at_ _) hY hYn).mono fun e w' h => ⟨h.1, _, ?_, by rw [← ec]; exact DSTo.pre hd hb h.2⟩)
          omega
    · refine ⟨13, L, hM, by omega, fun W F q qs hs hq => ?_, fun W R hd hR => ?_⟩
      · exact pay_with _ W t a c n 13 (kA t a) (kA t c) _ hg1 hg2 rfl rfl (fun X hb => (cmove_less (hs.below hb) (kA t a) (kA t c) _ n (kA_size t a) (hM.at_ _) hX hn (by omega)).mono fun e w' h => ⟨h.1, (hs.same (hb.trans (h.2.mono hb.size))).up (by omega)⟩)
      · exact rpay_with _ W t a c n 13 (kA t a) (kA t c) _ hg1 hg2 rfl rfl (fun X hb => (rmove_funds w X m L R (kA t a) (kA t c) _ n (hd.below hb) hM.r (by omega) (hM.at_ _) hX hn hx).mono fun e w' h => ⟨h.1, R, by omega, DSTo.pre hd hb h.2⟩)
  · refine ⟨2, L, hM, by omega, fun W F q qs hs hq => ?_, fun W R hd hR => ?_⟩
    · exact (pay_no _ W t a c n hg).mono fun e w' h => ⟨h.1, (hs.same h.2).up (by omega)⟩
    · exact (rpay_no _ W t a c n hg).mono fun e w' h => ⟨h.1, R, by omega, DSTo.of_below hd h.2⟩
/-- both totals -/
theorem bank_total (w : World) (b m : Nat) (L : SL) (hM : BM L) (hN : L.length < 800000) (t : Int) :
    ∃ (N : Nat) (ok : Bool), N < 2 ^ 256 ∧
      (∀ (W : World) (F : List Nat) (q : Nat) (qs : List Value), SNew w W b F L q qs → Calls Tryz.prog 9 #[.pointer (some ⟨b, 0, none⟩), .int .i64 t] W fun e w' => e = .returned (.tuple #[U N, .bool ok]) ∧ Below W.heap.size W w') ∧
      (∀ (W : World) (R : List Ch), DS w W m L R → Calls Tryz.prog 10 #[.pointer (some ⟨m, 0, none⟩), .int .i64 t] W fun e w' => e = .returned (.tuple #[U N, .bool ok]) ∧ Below W.heap.size W w') := by
  have hm := MOST_lt
  by_cases ht : okT t
  · have hi := hM.inv t ht
    refine ⟨sumU L (kP t), true, by omega, fun W F q qs hs => ?_, fun W R hd => ?_⟩
    · refine total_live hs t _ _ _ _ ht rfl rfl rfl rfl (fun p hp => (hM.z p hp).1) (by omega) _ ?_ (by omega)
      simp only [under_filter hM.r]
      exact hM.total ht
    · exact rtotal_yes w W m L R t _ _ _ _ hd (by omega) ht rfl rfl rfl rfl _ (hM.total ht) (by omega)
  · refine ⟨0, false, by decide, fun W F q qs hs => ?_, fun W R hd => ?_⟩
    · exact total_no _ t W ht
    · exact rtotal_no _ t W ht
theorem bank_balance (w : World) (b m : Nat) (L : SL) (hM : BM L) (hN : L.length < 800000) (t a : Int) (ht : t < 2 ^ 63) (ha : a < 2 ^ 63) :
    (∀ (W : World) (F : List Nat) (q : Nat) (qs : List Value), SNew w W b F L q qs → Calls Tryz.prog 7 #[.pointer (some ⟨b, 0, none⟩), .int .i64 t, .int .i64 a] W fun e w' => e = .returned (U (amt L (kA t a))) ∧ Below W.heap.size W w') ∧
    (∀ (W : World) (R : List Ch), DS w W m L R → Calls Tryz.prog 8 #[.pointer (some ⟨m, 0, none⟩), .int .i64 t, .int .i64 a] W fun e w' => e = .returned (U (amt L (kA t a))) ∧ Below W.heap.size W w') := by
  refine ⟨fun W F q qs hs => ?_, fun W R hd => ?_⟩
  · exact balance_of _ t a _ (kA t a) rfl W ht ha (fun W1 hb => camount_at (hs.below hb) (kA t a) _ (kA_size t a) (hM.at_ _) (amt_lt _ _))
  · exact rbalance_walk w W m L R t a _ (kA t a) rfl ht ha hd hM.r (by omega) (hM.at_ _) (amt_lt _ _)
end Go.Proofs.YtffipojlpdphiaaGreat
