/- A store of delayed numbers of one table beside other entries: what both Sets leave. -/
import Derived.Test.YtoaepgiajooecaaGreatG32
import Derived.Test.YtoaepgiajooecaaGreatG10
import Derived.Test.YtoaepgiajooecaaGreatG22
import Derived.Test.YtoaepgiajooecaaGreatG30
import Derived.Test.YtoaepgiajooecaaGreatG13
namespace Go.Proofs.YtoaepgiajooecaaGreat
open Go.RowKit Go.Maps Go.Sort

/-- a key of no other kind -/
def Oth (t : Int) (n : Nat) (K : ByteArray) : Prop := ∀ f : Nat → Int, keyStr t f n = K → K = ⟨#[]⟩
/-- numbers stand in L0; in L beside them the delayed numbers of table t, by n numbers -/
structure DP (t : Int) (n : Nat) (L0 L : SL) : Prop where
  r : Rising (skeys L)
  z : SzOk L
  v : ∀ f : Nat → Int, ∃ v : DV, v.ok ∧ DAt L (keyStr t f n) v
  o : ∀ K, Oth t n K → sget L K = sget L0 K
theorem DP.set {t : Int} {n : Nat} {L0 L : SL} (h : DP t n L0 L) {f : Nat → Int} (hK : keyStr t f n ≠ ⟨#[]⟩) (hk : (keyStr t f n).size ≤ maxLen) (v : DV) (hv : v.ok) : DP t n L0 (setL L (keyStr t f n) v.row) := by
  refine ⟨rising_setL h.r _ _, ?_, fun f' => ?_, fun K hO => ?_⟩
  · unfold setL
    split
    · exact h.z
    · exact h.z.sset hk (by show (rowV _ 5).size ≤ maxLen; rw [rowV_size]; decide)
  · unfold DAt
    rw [sget_setL]
    by_cases he : keyStr t f' n = keyStr t f n
    · rw [if_pos he]; exact ⟨v, hv, .inr rfl⟩
    · rw [if_neg he]; exact h.v f'
  · rw [sget_setL, if_neg (fun e => hK (by rw [← e]; exact hO f e.symm))]
    exact h.o K hO
theorem delay_beside (w : World) (b m : Nat) (t : Int) (n c : Nat) (L0 L : SL) (hM : DP t n L0 L) (hN : L.length < 900000) (f : Nat → Int) (hn : n ≤ 100) (x blk wait : Int) :
    ∃ (er : Int) (L2 : SL) (v2 : DV), v2.ok ∧ DAt L2 (keyStr t f n) v2 ∧ DP t n L0 L2 ∧ L2.length ≤ L.length + 1 ∧
      (∀ (W : World) (F : List Nat) (q : Nat) (qs : List Value) (A : Option Addr), SNew w W b F L q qs → Il W A n f → q < 900000 →
        Calls Tryz.prog 21 #[.pointer (some ⟨b, 0, none⟩), .int .i64 t, .slice A n c, .int .i64 x, .int .i64 blk, .int .i64 wait] W fun e W' => e = .returned (.int .i64 er) ∧ LiveTo w W W' b F L2 (q + 1)) ∧
      (∀ (W : World) (R : List Ch) (A : Option Addr), DS w W m L R → Il W A n f → R.length < 900000 →
        Calls Tryz.prog 24 #[.pointer (some ⟨m, 0, none⟩), .int .i64 t, .slice A n c, .int .i64 x, .int .i64 blk, .int .i64 wait] W fun e W' => e = .returned (.int .i64 er) ∧ ∃ R', R'.length ≤ R.length + 1 ∧ DSTo w W W' m L2 R') := by
  obtain ⟨v, hv, hat⟩ := hM.v f
  have hk : (keyStr t f n).size ≤ maxLen := by have := keyStr_size t f n; unfold maxLen; omega
  by_cases hK : keyStr t f n = ⟨#[]⟩
  · refine ⟨2, L, v, hv, hat, hM, Nat.le_succ _, fun W F q qs A hs hl hq => ?_, fun W R A hd hl hR => ?_⟩
    · exact (dset_nokey hs t A n c f _ rfl hn hl hK x blk wait).mono fun e W' h => ⟨h.1, h.2.le (Nat.le_succ _)⟩
    · exact (rdset_nokey w W m L R t A n c f _ rfl hd hl hn x blk wait hK).mono fun e W' h => ⟨h.1, R, Nat.le_succ _, h.2⟩
  · by_cases hall : ∀ j, j < 3 → dIn (g3el x blk wait j) = true
    · obtain ⟨hx, hb, hw⟩ := dIn_all hall
      have hv2 := stepD_ok hv hx hb hw
      refine ⟨0, setL L (keyStr t f n) (stepD v x blk wait).row, stepD v x blk wait, hv2, .inr (by rw [sget_setL, if_pos rfl]), hM.set hK hk _ hv2, setL_le _ _ _, fun W F q qs A hs hl hq => ?_, fun W R A hd hl hR => ?_⟩
      · refine (dset_go hs t A n c f _ rfl hn hk hl hK x blk wait hx hb hw (by omega) (by omega) v hv hat).mono fun e W' h => ⟨h.1, ?_⟩
        have h2 := h.2
        cases hE : (stepD v x blk wait).eqb v with
        | true => rw [hE, if_pos rfl] at h2; rw [hat.same hE]; exact h2
        | false => rw [hE, if_neg (by decide)] at h2; exact h2
      · refine (rdset_core w W m L R t A n c f _ rfl hd hl hn x blk wait _ hK hx hb hw rfl hM.r (by omega) (by omega) v.h v.n v.x v.a v.m (settleD v blk).h (settleD v blk).n (settleD v blk).x (settleD v blk).a (settleD v blk).m (stepD v x blk wait).h (stepD v x blk wait).n (stepD v x blk wait).x (stepD v x blk wait).a (stepD v x blk wait).m hv hat hv2 (fun w => rsettle_any v blk w) (fun w => rsettle_any (putD v x blk wait) blk w)).mono fun e W' h => ⟨h.1, _, setR_le L R (keyStr t f n) (stepD v x blk wait).row, ?_⟩
        have h2 := h.2
        unfold setE at h2
        rw [if_neg hK] at h2
        exact h2
    · refine ⟨2, L, v, hv, hat, hM, Nat.le_succ _, fun W F q qs A hs hl hq => ?_, fun W R A hd hl hR => ?_⟩
      · exact (dset_bad hs t A n c f _ rfl hn hl hK x blk wait (dIn_some hall)).mono fun e W' h => ⟨h.1, h.2.le (Nat.le_succ _)⟩
      · exact (rdset_out w W m L R t A n c f _ rfl hd hl hn x blk wait hK hall).mono fun e W' h => ⟨h.1, R, Nat.le_succ _, h.2⟩
/-- a store of numbers alone -/
structure NL (L : SL) : Prop where
  r : Rising (skeys L)
  z : SzOk L
  s : ∀ p ∈ L, ∃ n : Nat, n < 2 ^ 63 ∧ p.2 = numStr n
theorem NL.nil : NL [] := ⟨List.Pairwise.nil, fun p hp => (by cases hp), fun p hp => (by cases hp)⟩
theorem NL.set {L : SL} (h : NL L) (k : ByteArray) (hk : k.size ≤ maxLen) (n : Nat) (hn : n < 2 ^ 63) : NL (setL L k (numStr n)) := by
  have h8 := numStr_sizeA (n : Int)
  refine ⟨rising_setL h.r _ _, ?_, fun p hp => ?_⟩
  · unfold setL
    split
    · exact h.z
    · exact h.z.sset hk (by rw [h8]; decide)
  · unfold setL at hp
    split at hp
    · exact h.s p hp
    · unfold sset at hp
      split at hp
      · obtain ⟨p0, hp0, rfl⟩ := List.mem_map.1 hp
        by_cases e : keq p0.1 k = true
        · rw [if_pos e]; exact ⟨n, hn, rfl⟩
        · rw [if_neg e]; exact h.s p0 hp0
      · rcases List.mem_append.1 hp with hp | hp
        · rcases List.mem_append.1 hp with hp | hp
          · exact h.s p (List.mem_of_mem_take hp)
          · obtain rfl : p = (k, numStr n) := by simpa using hp
            exact ⟨n, hn, rfl⟩
        · exact h.s p (List.mem_of_mem_drop hp)
theorem sget_memN {L : SL} {k v : ByteArray} (h : sget L k = some v) : (k, v) ∈ L := by
  unfold sget at h
  cases hf : L.find? (fun p => keq p.1 k) with
  | none => rw [hf] at h; cases h
  | some p =>
    rw [hf] at h
    have h1 := List.mem_of_find?_eq_some hf
    have h2 := List.find?_some hf
    have h3 : p.2 = v := Option.some.inj h
    rw [← keq_iff.1 h2, ← h3]
    exact h1
theorem NL.int {L : SL} (h : NL L) (K : ByteArray) : ∃ n : Nat, n < 2 ^ 63 ∧ intAt L K n := by
  unfold intAt
  cases hs : sget L K with
  | none => exact ⟨0, by decide, .inl ⟨rfl, rfl⟩⟩
  | some v =>
    obtain ⟨n, hn, e⟩ := h.s _ (sget_memN hs)
    exact ⟨n, hn, .inr (by rw [show v = numStr n from e])⟩
theorem keyStr_first {t s : Nat} {f g : Nat → Int} {n m : Nat} (ht : 1 ≤ t ∧ t ≤ 255) (hs : 1 ≤ s ∧ s ≤ 255) (hne : t ≠ s) (h : keyStr (t : Int) f n = keyStr (s : Int) g m) : keyStr (s : Int) g m = ⟨#[]⟩ := by
  by_cases hg : ∀ i, i < m → 0 ≤ g i
  · by_cases hf : ∀ i, i < n → 0 ≤ f i
    · exfalso
      rw [keyStr_yes ht.1 ht.2 hf, keyStr_yes hs.1 hs.2 hg] at h
      have h1 := congrArg ByteArray.toList h
      rw [strOfNums_u8l, strOfNums_u8l] at h1
      have h2 : UInt8.ofNat t = UInt8.ofNat s := by
        injection h1
      have h3 := congrArg UInt8.toNat h2
      simp at h3
      omega
    · rw [← h]
      unfold keyStr
      rw [if_neg (fun hh => hf hh.2.2)]
  · unfold keyStr
    rw [if_neg (fun hh => hg hh.2.2)]
theorem oth_of {t s : Nat} {g : Nat → Int} {n m : Nat} (ht : 1 ≤ t ∧ t ≤ 255) (hs : 1 ≤ s ∧ s ≤ 255) (hne : t ≠ s) : Oth (t : Int) n (keyStr (s : Int) g m) := fun _ h => keyStr_first ht hs hne h
/-- beside delayed numbers, numbers stay -/
theorem DP.int {t s n m : Nat} {L0 L : SL} (h : DP (t : Int) n L0 L) (h0 : NL L0) (ht : 1 ≤ t ∧ t ≤ 255) (hs : 1 ≤ s ∧ s ≤ 255) (hne : t ≠ s) (g : Nat → Int) : ∃ k : Nat, k < 2 ^ 63 ∧ intAt L (keyStr (s : Int) g m) k := by
  obtain ⟨k, hk, hi⟩ := h0.int (keyStr (s : Int) g m)
  refine ⟨k, hk, ?_⟩
  unfold intAt at hi ⊢
  rw [h.o _ (oth_of ht hs hne)]
  exact hi
/-- at the beginning -/
theorem DP.start {t n : Nat} {L0 : SL} (h0 : NL L0) (hno : ∀ f : Nat → Int, sget L0 (keyStr (t : Int) f n) = none) : DP (t : Int) n L0 L0 := ⟨h0.r, h0.z, fun f => ⟨DV.none, DV.ok_none, .inl ⟨hno f, rfl⟩⟩, fun _ _ => rfl⟩
end Go.Proofs.YtoaepgiajooecaaGreat

namespace Go.Proofs.YtoaepgiajooecaaGreat
open Go.RowKit Go.Maps Go.Sort

set_option maxRecDepth 100000 in
set_option maxHeartbeats 400000 in
theorem ris21_at (w W : World) (m : Nat) (L : SL) (R : List Ch) (a : Int) (K : ByteArray) (n : Nat) (h : DS w W m L R) (hK : keyStr 8 (fun _ => a) 1 = K) (ha : a < 2 ^ 63) (hr : Rising (skeys L)) (hN : L.length ≤ 1000000) (he : intAt L K n) (hn : n < 2 ^ 63) :
    Calls Tryz.prog 22 #[.pointer (some ⟨m, 0, none⟩), .int .i64 a] W fun e W' => e = .returned (.bool (decide (n = 1))) ∧ Below W.heap.size W W' := by
  have hk := rkey9_walk 8 (some ⟨W.heap.size, 0, none⟩) 1 1 (fun _ => a) _ (il1 a W 3 ha) (by omega)
  unfold KeyPost at hk
  rw [hK] at hk
  have HK := Lib.hid hk
  have HB0 := Lib.hid ((Below.refl W.heap.size W).alloc (Nat.le_refl _) (.cells #[.int .i64 a] 3))
  have HI := Lib.hid (fun (W1 : World) (hb : Below W.heap.size W W1) => rint_walk w W1 m L R K n (h.below hb) hr hN he hn)
  clear h hK ha hr hN he hn hk
  by_cases h1 : n = 1
  · subst h1
    go_enter Tryz.func22, Tryz.ntmps22
    go_wp2_with (first
      | (go_at_call 49; refine (HI.out w1 HB1.out).mono ?_; rintro e w2 ⟨rfl, hb2⟩; have HB2 := Lib.hid (HB1.out.trans (hb2.mono HB1.out.size)); clear hb2)
      | (go_at_call 43; refine HK.out.mono ?_; rintro e w1 ⟨rfl, hb1⟩; have HB1 := Lib.hid (HB0.out.trans (hb1.mono HB0.out.size)); clear hb1))
    go_ret
    exact ⟨rfl, HB2.out⟩
  · rw [decide_eq_false h1]
    have p1 : ((n : Int) == 1) = false := by rw [beq_eq_false_iff_ne]; omega
    go_enter Tryz.func22, Tryz.ntmps22
    go_wp2_with (first
      | (go_at_call 49; refine (HI.out w1 HB1.out).mono ?_; rintro e w2 ⟨rfl, hb2⟩; have HB2 := Lib.hid (HB1.out.trans (hb2.mono HB1.out.size)); clear hb2)
      | (go_at_call 43; refine HK.out.mono ?_; rintro e w1 ⟨rfl, hb1⟩; have HB1 := Lib.hid (HB0.out.trans (hb1.mono HB0.out.size)); clear hb1))
    go_ret
    exact ⟨rfl, HB2.out⟩
set_option maxRecDepth 100000 in
set_option maxHeartbeats 400000 in
theorem rof21_at (w W : World) (m : Nat) (L : SL) (R : List Ch) (a : Int) (K : ByteArray) (n : Nat) (h : DS w W m L R) (hK : keyStr 9 (fun _ => a) 1 = K) (ha : a < 2 ^ 63) (hr : Rising (skeys L)) (hN : L.length ≤ 1000000) (he : intAt L K n) (hn : n < 2 ^ 63) :
    Calls Tryz.prog 41 #[.pointer (some ⟨m, 0, none⟩), .int .i64 a] W fun e W' => e = .returned (.int .i64 (n : Nat)) ∧ Below W.heap.size W W' := by
  have hk := rkey9_walk 9 (some ⟨W.heap.size, 0, none⟩) 1 1 (fun _ => a) _ (il1 a W 3 ha) (by omega)
  unfold KeyPost at hk
  rw [hK] at hk
  have HK := Lib.hid hk
  have HB0 := Lib.hid ((Below.refl W.heap.size W).alloc (Nat.le_refl _) (.cells #[.int .i64 a] 3))
  have HI := Lib.hid (fun (W1 : World) (hb : Below W.heap.size W W1) => rint_walk w W1 m L R K n (h.below hb) hr hN he hn)
  clear h hK ha hr hN he hn hk
  go_enter Tryz.func41, Tryz.ntmps41
  go_wp2_with (first
    | (go_at_call 49; refine (HI.out w1 HB1.out).mono ?_; rintro e w2 ⟨rfl, hb2⟩; have HB2 := Lib.hid (HB1.out.trans (hb2.mono HB1.out.size)); clear hb2)
    | (go_at_call 43; refine HK.out.mono ?_; rintro e w1 ⟨rfl, hb1⟩; have HB1 := Lib.hid (HB0.out.trans (hb1.mono HB0.out.size)); clear hb1))
  go_ret
  exact ⟨rfl, HB2.out⟩
theorem ris17c (a : Int) (w : World) (h1 : 1 ≤ a) (h2 : a ≤ 4294967295) : Calls Tryz.prog 40 #[.int .i64 a] w fun e w' => e = .returned (.bool true) ∧ w = w' := by
  go_enter Tryz.func40, Tryz.ntmps40
  go_wp2
  go_ret
  first | exact ⟨rfl, rfl⟩ | exact ⟨by simp [h1, h2], rfl⟩
theorem setL_le9 (L : SL) (k v : ByteArray) : (setL L k v).length ≤ L.length + 1 := by
  unfold setL
  split
  · omega
  · unfold sset
    split
    · simp
    · simp; omega
theorem rising_setL9 {L : SL} (hr : Rising (skeys L)) (k v : ByteArray) : Rising (skeys (setL L k v)) := by
  unfold setL
  split
  · exact hr
  · exact rising_sset hr k v
theorem setR_le9 (L : SL) (R : List Ch) (k v : ByteArray) : (setR L R k v).length ≤ R.length + 1 := by
  unfold setR
  split
  · omega
  · split <;> simp
/-- SetInt of a number at a key that is one -/
theorem rsetInt_pos (w W : World) (m : Nat) (L : SL) (R : List Ch) (k : ByteArray) (n : Int) (h : DS w W m L R) (hk0 : k ≠ ⟨#[]⟩) (hr : Rising (skeys L)) (hN : L.length < 1000000) (hR : R.length < 1000000) (h1 : 1 ≤ n) (hn : n < 2 ^ 63) :
    Calls Tryz.prog 42 #[.pointer (some ⟨m, 0, none⟩), .string k, .int .i64 n] W fun e W' => e = .returned (.tuple #[]) ∧ DSTo w W W' m (setL L k (numStr n)) (setR L R k (numStr n)) := by
  have h2 := rsetInt_walk w W m L R k n h hr hN hR hn
  rw [if_neg (by omega), if_neg (by omega)] at h2
  unfold setE at h2
  rw [if_neg hk0] at h2
  exact h2
set_option maxRecDepth 100000 in
set_option maxHeartbeats 2000000 in
theorem rreg21_ok (w W : World) (m : Nat) (L : SL) (R : List Ch) (a : Int) (K8 K9 : ByteArray) (h : DS w W m L R) (hK8 : keyStr 8 (fun _ => a) 1 = K8) (hK9 : keyStr 9 (fun _ => a) 1 = K9) (ha1 : 1 ≤ a) (ha2 : a ≤ 4294967295) (hn8 : K8 ≠ ⟨#[]⟩) (hn9 : K9 ≠ ⟨#[]⟩) (hr : Rising (skeys L)) (hN : L.length < 900000) (hR : R.length < 900000) (h8 : intAt L K8 0) (h9 : intAt L K9 0) :
    Calls Tryz.prog 15 #[.pointer (some ⟨m, 0, none⟩), .int .i64 a] W fun e W' => e = .returned (.int .i64 0) ∧ DSTo w W W' m (setL (setL L K8 (numStr 1)) K9 (numStr a)) (setR (setL L K8 (numStr 1)) (setR L R K8 (numStr 1)) K9 (numStr a)) := by
  have hl1 := setL_le9 L K8 (numStr 1)
  have hr1 := rising_setL9 hr K8 (numStr 1)
  have hR1 := setR_le9 L R K8 (numStr 1)
  have HIs := Lib.hid (fun (W1 : World) (hb : Below W.heap.size W W1) => ris21_at w W1 m L R a K8 0 (h.below hb) hK8 (by omega) hr (by omega) h8 (by decide))
  have HOf := Lib.hid (fun (W1 : World) (hb : Below W.heap.size W W1) => rof21_at w W1 m L R a K9 0 (h.below hb) hK9 (by omega) hr (by omega) h9 (by decide))
  have HI := Lib.hid (ris17c a W ha1 ha2)
  have HK8 := Lib.hid (fun (W1 : World) => (show Calls Tryz.prog 43 #[.int .i64 8, .slice (some ⟨W1.heap.size, 0, none⟩) 1 1] (W1.alloc (.cells #[.int .i64 a] 3)) fun e w' => e = .returned (.string K8) ∧ Below (W1.alloc (.cells #[.int .i64 a] 3)).heap.size (W1.alloc (.cells #[.int .i64 a] 3)) w' from by
    have hk := rkey9_walk 8 (some ⟨W1.heap.size, 0, none⟩) 1 1 (fun _ => a) _ (il1 a W1 3 (by omega)) (by omega)
    unfold KeyPost at hk
    rwa [hK8] at hk))
  have HK9 := Lib.hid (fun (W1 : World) => (show Calls Tryz.prog 43 #[.int .i64 9, .slice (some ⟨W1.heap.size, 0, none⟩) 1 1] (W1.alloc (.cells #[.int .i64 a] 3)) fun e w' => e = .returned (.string K9) ∧ Below (W1.alloc (.cells #[.int .i64 a] 3)).heap.size (W1.alloc (.cells #[.int .i64 a] 3)) w' from by
    have hk := rkey9_walk 9 (some ⟨W1.heap.size, 0, none⟩) 1 1 (fun _ => a) _ (il1 a W1 3 (by omega)) (by omega)
    unfold KeyPost at hk
    rwa [hK9] at hk))
  have HS8 := Lib.hid (fun (W1 : World) (hb : Below W.heap.size W W1) => (rsetInt_pos w W1 m L R K8 1 (h.below hb) hn8 hr (by omega) (by omega) (by omega) (by omega)).mono fun e W' hp => (⟨hp.1, DSTo.pre h hb hp.2⟩ : e = .returned (.tuple #[]) ∧ DSTo w W W' m (setL L K8 (numStr 1)) (setR L R K8 (numStr 1))))
  have HS9 := Lib.hid (fun (W0 W1 : World) (h0 : DSTo w W W0 m (setL L K8 (numStr 1)) (setR L R K8 (numStr 1))) (hb : Below W0.heap.size W0 W1) => (rsetInt_pos w W1 m _ _ K9 a (h0.s.below hb) hn9 hr1 (by omega) (by omega) ha1 (by omega)).mono fun e W' hp => (⟨hp.1, h0.trans (DSTo.pre h0.s hb hp.2)⟩ : e = .returned (.tuple #[]) ∧ DSTo w W W' m (setL (setL L K8 (numStr 1)) K9 (numStr a)) (setR (setL L K8 (numStr 1)) (setR L R K8 (numStr 1)) K9 (numStr a))))
  obtain ⟨L1, eL1⟩ : ∃ z, z = setL L K8 (numStr 1) := ⟨_, rfl⟩
  obtain ⟨R1, eR1⟩ : ∃ z, z = setR L R K8 (numStr 1) := ⟨_, rfl⟩
  rw [← eL1, ← eR1] at HS8 HS9 ⊢
  obtain ⟨L2, eL2⟩ : ∃ z, z = setL L1 K9 (numStr a) := ⟨_, rfl⟩
  obtain ⟨R2, eR2⟩ : ∃ z, z = setR L1 R1 K9 (numStr a) := ⟨_, rfl⟩
  rw [← eL2, ← eR2] at HS9 ⊢
  clear h hK8 hK9 ha1 ha2 hn8 hn9 hr hN hR h8 h9 hl1 hr1 hR1 eL1 eR1 eL2 eR2
  go_enter Tryz.func15, Tryz.ntmps15
  go_wp2_with (first
    | (go_at_call 42; have g5 := H6; clear g5; refine (HS9.out _ _ H5.out H6.out).mono ?_; rintro e w7 ⟨rfl, h7⟩; have H7 := Lib.hid h7; clear h7)
    | (go_at_call 43; have g5 := H5; clear g5; refine (HK9.out _).mono ?_; rintro e w6 ⟨rfl, hb6⟩; have hbx := (Below.refl w5.heap.size w5).alloc (Nat.le_refl _) (.cells #[.int .i64 a] 3); have H6 := Lib.hid (hbx.trans (hb6.mono hbx.size)); clear hb6 hbx)
    | (go_at_call 42; refine (HS8.out _ H4.out).mono ?_; rintro e w5 ⟨rfl, h5⟩; have H5 := Lib.hid h5; clear h5)
    | (go_at_call 43; refine (HK8.out _).mono ?_; rintro e w4 ⟨rfl, hb4⟩; have hbx := H3.out.alloc H3.out.size (.cells #[.int .i64 a] 3); have H4 := Lib.hid (hbx.trans (hb4.mono hbx.size)); clear hb4 hbx)
    | (go_at_call 41; refine (HOf.out _ H2.out).mono ?_; rintro e w3 ⟨rfl, hb3⟩; have H3 := Lib.hid (H2.out.trans (hb3.mono H2.out.size)); clear hb3)
    | (go_at_call 22; refine (HIs.out _ (Below.refl _ _)).mono ?_; rintro e w2 ⟨rfl, hb2⟩; have H2 := Lib.hid hb2; clear hb2)
    | (go_at_call 40; refine HI.out.mono ?_; rintro e w1 ⟨rfl, rfl⟩))
  go_ret
  exact ⟨rfl, H7.out⟩
end Go.Proofs.YtoaepgiajooecaaGreat

namespace Go.Proofs.YtoaepgiajooecaaGreat
open Go.RowKit Go.Maps

set_option maxRecDepth 100000 in
theorem istok_c (t : Int) (w : World) (h1 : 1 ≤ t) (h2 : t ≤ 1000) : Calls Tryz.prog 62 #[.int .i64 t] w fun e w' => e = .returned (.bool true) ∧ w = w' := by
  go_enter Tryz.func62, Tryz.ntmps62
  go_wp2
  go_ret
  exact ⟨rfl, rfl⟩
set_option maxRecDepth 100000 in
theorem bgood_c (t a : Int) (w : World) (h1 : 1 ≤ t) (h2 : t ≤ 1000) (h3 : 1 ≤ a) (h4 : a ≤ 4294967295) : Calls Tryz.prog 35 #[.int .i64 t, .int .i64 a] w fun e w' => e = .returned (.bool true) ∧ w = w' := by
  have HT := Lib.hid (istok_c t w h1 h2)
  clear h1 h2
  go_enter Tryz.func35, Tryz.ntmps35
  go_wp2_with (go_at_call 62; refine HT.out.mono ?_; rintro e w1 ⟨rfl, rfl⟩)
  go_ret
  exact ⟨rfl, rfl⟩
/-! ### a dead store -/
set_option maxRecDepth 100000 in
set_option maxHeartbeats 400000 in
theorem reg_dead (p : Value) (a : Int) (w : World) (h : SDead w p) : Calls Tryz.prog 14 #[p, .int .i64 a] w fun e w' => e = .returned (.int .i64 1) ∧ w = w' := by
  have HM := Lib.hid (made_dead p w h)
  clear h
  go_enter Tryz.func14, Tryz.ntmps14
  go_wp2_with (go_at_call 18; refine HM.out.mono ?_; rintro e w1 ⟨rfl, rfl⟩)
  go_ret
  exact ⟨rfl, rfl⟩
set_option maxRecDepth 100000 in
set_option maxHeartbeats 400000 in
theorem ris_dead (p : Value) (a : Int) (w : World) (h : SDead w p) (ha : a < 2 ^ 63) : Calls Tryz.prog 36 #[p, .int .i64 a] w fun e w' => e = .returned (.bool false) ∧ Below w.heap.size w w' := by
  have HK := Lib.hid (key_some 8 (some ⟨w.heap.size, 0, none⟩) 1 1 (fun _ => a) _ (il1 a w 3 ha) (by omega))
  have HB0 := Lib.hid ((Below.refl w.heap.size w).alloc (Nat.le_refl _) (.cells #[.int .i64 a] 3))
  have HD := Lib.hid h
  clear h ha
  go_enter Tryz.func36, Tryz.ntmps36
  go_wp2_with (first
    | (go_at_call 63; refine (cint_dead p K w1 (HD.out.below HB1.out)).mono ?_; rintro e w2 ⟨rfl, hb2⟩; have HB2 := Lib.hid (HB1.out.trans (hb2.mono HB1.out.size)); clear hb2)
    | (go_at_call 39; refine HK.out.mono ?_; rintro e w1 ⟨⟨K, rfl, _⟩, hb1⟩; have HB1 := Lib.hid (HB0.out.trans (hb1.mono HB0.out.size)); clear hb1))
  go_ret
  exact ⟨rfl, HB2.out⟩
set_option maxRecDepth 100000 in
set_option maxHeartbeats 400000 in
theorem rof_dead (p : Value) (a : Int) (w : World) (h : SDead w p) (ha : a < 2 ^ 63) : Calls Tryz.prog 37 #[p, .int .i64 a] w fun e w' => e = .returned (.int .i64 0) ∧ Below w.heap.size w w' := by
  have HK := Lib.hid (key_some 9 (some ⟨w.heap.size, 0, none⟩) 1 1 (fun _ => a) _ (il1 a w 3 ha) (by omega))
  have HB0 := Lib.hid ((Below.refl w.heap.size w).alloc (Nat.le_refl _) (.cells #[.int .i64 a] 3))
  have HD := Lib.hid h
  clear h ha
  go_enter Tryz.func37, Tryz.ntmps37
  go_wp2_with (first
    | (go_at_call 63; refine (cint_dead p K w1 (HD.out.below HB1.out)).mono ?_; rintro e w2 ⟨rfl, hb2⟩; have HB2 := Lib.hid (HB1.out.trans (hb2.mono HB1.out.size)); clear hb2)
    | (go_at_call 39; refine HK.out.mono ?_; rintro e w1 ⟨⟨K, rfl, _⟩, hb1⟩; have HB1 := Lib.hid (HB0.out.trans (hb1.mono HB0.out.size)); clear hb1))
  go_ret
  exact ⟨rfl, HB2.out⟩
/-! ### a live store -/
set_option maxRecDepth 100000 in
set_option maxHeartbeats 400000 in
theorem ris_live {w W : World} {b : Nat} {F : List Nat} {L : SL} {q : Nat} {qs : List Value} (h : SNew w W b F L q qs) (a : Int) (K : ByteArray) (hK : keyStr 8 (fun _ => a) 1 = K) (ha : a < 2 ^ 63) (hk : K.size ≤ maxLen) (n : Nat) (he : intAt L K n) (hn : n < 2 ^ 63) :
    Calls Tryz.prog 36 #[.pointer (some ⟨b, 0, none⟩), .int .i64 a] W fun e W' => e = .returned (.bool (decide (n = 1))) ∧ Below W.heap.size W W' := by
  have HK := Lib.hid (key_is 8 (some ⟨W.heap.size, 0, none⟩) 1 1 (fun _ => a) K hK _ (il1 a W 3 ha) (by omega))
  have HB0 := Lib.hid ((Below.refl W.heap.size W).alloc (Nat.le_refl _) (.cells #[.int .i64 a] 3))
  have HI := Lib.hid (fun (W1 : World) (hb : Below W.heap.size W W1) => cint_at (h.below hb) K n hk he hn)
  clear h hK ha hk he hn
  by_cases h1 : n = 1
  · subst h1
    go_enter Tryz.func36, Tryz.ntmps36
    go_wp2_with (first
      | (go_at_call 63; refine (HI.out w1 HB1.out).mono ?_; rintro e w2 ⟨rfl, hb2⟩; have HB2 := Lib.hid (HB1.out.trans (hb2.mono HB1.out.size)); clear hb2)
      | (go_at_call 39; refine HK.out.mono ?_; rintro e w1 ⟨rfl, hb1⟩; have HB1 := Lib.hid (HB0.out.trans (hb1.mono HB0.out.size)); clear hb1))
    go_ret
    exact ⟨rfl, HB2.out⟩
  · rw [decide_eq_false h1]
    have p1 : ((n : Int) == 1) = false := by rw [beq_eq_false_iff_ne]; omega
    go_enter Tryz.func36, Tryz.ntmps36
    go_wp2_with (first
      | (go_at_call 63; refine (HI.out w1 HB1.out).mono ?_; rintro e w2 ⟨rfl, hb2⟩; have HB2 := Lib.hid (HB1.out.trans (hb2.mono HB1.out.size)); clear hb2)
      | (go_at_call 39; refine HK.out.mono ?_; rintro e w1 ⟨rfl, hb1⟩; have HB1 := Lib.hid (HB0.out.trans (hb1.mono HB0.out.size)); clear hb1))
    go_ret
    exact ⟨rfl, HB2.out⟩
set_option maxRecDepth 100000 in
set_option maxHeartbeats 400000 in
theorem rof_live {w W : World} {b : Nat} {F : List Nat} {L : SL} {q : Nat} {qs : List Value} (h : SNew w W b F L q qs) (a : Int) (K : ByteArray) (hK : keyStr 9 (fun _ => a) 1 = K) (ha : a < 2 ^ 63) (hk : K.size ≤ maxLen) (n : Nat) (he : intAt L K n) (hn : n < 2 ^ 63) :
    Calls Tryz.prog 37 #[.pointer (some ⟨b, 0, none⟩), .int .i64 a] W fun e W' => e = .returned (.int .i64 (n : Nat)) ∧ Below W.heap.size W W' := by
  have HK := Lib.hid (key_is 9 (some ⟨W.heap.size, 0, none⟩) 1 1 (fun _ => a) K hK _ (il1 a W 3 ha) (by omega))
  have HB0 := Lib.hid ((Below.refl W.heap.size W).alloc (Nat.le_refl _) (.cells #[.int .i64 a] 3))
  have HI := Lib.hid (fun (W1 : World) (hb : Below W.heap.size W W1) => cint_at (h.below hb) K n hk he hn)
  clear h hK ha hk he hn
  go_enter Tryz.func37, Tryz.ntmps37
  go_wp2_with (first
    | (go_at_call 63; refine (HI.out w1 HB1.out).mono ?_; rintro e w2 ⟨rfl, hb2⟩; have HB2 := Lib.hid (HB1.out.trans (hb2.mono HB1.out.size)); clear hb2)
    | (go_at_call 39; refine HK.out.mono ?_; rintro e w1 ⟨rfl, hb1⟩; have HB1 := Lib.hid (HB0.out.trans (hb1.mono HB0.out.size)); clear hb1))
  go_ret
  exact ⟨rfl, HB2.out⟩
set_option maxRecDepth 100000 in
set_option maxHeartbeats 2000000 in
theorem reg_live {w W : World} {b : Nat} {F : List Nat} {L : SL} {q : Nat} {qs : List Value} (h : SNew w W b F L q qs) (a : Nat) (K8 K9 : ByteArray) (hK8 : keyStr 8 (fun _ => (a : Int)) 1 = K8) (hK9 : keyStr 9 (fun _ => (a : Int)) 1 = K9) (ha1 : 1 ≤ a) (ha2 : a ≤ 4294967295)
    (h8 : intAt L K8 0) (h9 : intAt L K9 0) (hk8 : K8.size ≤ maxLen) (hk9 : K9.size ≤ maxLen) (hn8 : K8 ≠ ⟨#[]⟩) (hn9 : K9 ≠ ⟨#[]⟩) (hN : (setL L K8 (numStr 1)).length < 1000000) (hN0 : L.length < 1000000) (hq : q + 2 < 1000000) :
    Calls Tryz.prog 14 #[.pointer (some ⟨b, 0, none⟩), .int .i64 (a : Nat)] W fun e W' => e = .returned (.int .i64 0) ∧ LiveTo w W W' b F (setL (setL L K8 (numStr 1)) K9 (numStr (a : Int))) (q + 2) := by
  have H0 := Lib.hid h.start
  have HM := Lib.hid (made_live b F L q qs W h.s)
  have HG := Lib.hid (fun w => bgood_c 1 (a : Int) w (by decide) (by decide) (by omega) (by omega))
  have HI := Lib.hid (fun (W1 : World) (hl : LiveTo w W W1 b F L q) => hl.read (fun F1 qa qsa hs _ => ris_live hs (a : Int) K8 hK8 (by omega) hk8 0 h8 (by decide)))
  have HO := Lib.hid (fun (W1 : World) (hl : LiveTo w W W1 b F L q) => hl.read (fun F1 qa qsa hs _ => rof_live hs (a : Int) K9 hK9 (by omega) hk9 0 h9 (by decide)))
  have HK8 := Lib.hid (fun (W1 : World) => key_is 8 (some ⟨W1.heap.size, 0, none⟩) 1 1 (fun _ => (a : Int)) K8 hK8 _ (il1 (a : Int) W1 3 (by omega)) (by omega))
  have HK9 := Lib.hid (fun (W1 : World) => key_is 9 (some ⟨W1.heap.size, 0, none⟩) 1 1 (fun _ => (a : Int)) K9 hK9 _ (il1 (a : Int) W1 3 (by omega)) (by omega))
  have HS8 := Lib.hid (fun (W1 : World) (hl : LiveTo w W W1 b F L q) => hl.seq 1 (fun F1 qa qsa hs hqa => csetInt_set hs K8 1 hk8 hn8 (by decide) (by decide) hN0 (by omega)))
  have HS9 := Lib.hid (fun (W1 : World) (hl : LiveTo w W W1 b F (setL L K8 (numStr 1)) (q + 1)) => hl.seq 1 (fun F1 qa qsa hs hqa => csetInt_set hs K9 (a : Int) hk9 hn9 (by omega) (by omega) hN (by omega)))
  clear h hK8 hK9 ha1 ha2 h8 h9 hk8 hk9 hn8 hn9 hN hN0 hq
  go_enter Tryz.func14, Tryz.ntmps14
  go_wp2_with (first
    | (go_at_call 38; have g5 := H6; clear g5; refine (HS9.out _ H6.out).mono ?_; rintro e w7 ⟨rfl, h7⟩; have H7 := Lib.hid h7; clear h7)
    | (go_at_call 39; have g5 := H5; clear g5; refine (HK9.out _).mono ?_; rintro e w6 ⟨rfl, hb6⟩; have H6 := Lib.hid ((H5.out.al _).post hb6); clear hb6)
    | (go_at_call 38; refine (HS8.out _ H4.out).mono ?_; rintro e w5 ⟨rfl, h5⟩; have H5 := Lib.hid h5; clear h5)
    | (go_at_call 39; refine (HK8.out _).mono ?_; rintro e w4 ⟨rfl, hb4⟩; have H4 := Lib.hid ((H3.out.al _).post hb4); clear hb4)
    | (go_at_call 37; refine (HO.out _ H2.out).mono ?_; rintro e w3 ⟨rfl, h3, _⟩; have H3 := Lib.hid h3; clear h3)
    | (go_at_call 36; refine (HI.out _ H0.out).mono ?_; rintro e w2 ⟨rfl, h2, _⟩; have H2 := Lib.hid h2; clear h2)
    | (go_at_call 35; refine (HG.out _).mono ?_; rintro e w1 ⟨rfl, rfl⟩)
    | (go_at_call 18; refine HM.out.mono ?_; rintro e w1 ⟨rfl, rfl⟩))
  go_ret
  exact ⟨rfl, H7.out⟩
/-! ### the document's example -/
def K87 : ByteArray := ⟨#[8, 0, 0, 0, 0, 0, 0, 0, 7]⟩
def K97 : ByteArray := ⟨#[9, 0, 0, 0, 0, 0, 0, 0, 7]⟩
def K88 : ByteArray := ⟨#[8, 0, 0, 0, 0, 0, 0, 0, 8]⟩
def K98 : ByteArray := ⟨#[9, 0, 0, 0, 0, 0, 0, 0, 8]⟩
def R1 : SL := setL (setL [] K87 (numStr 1)) K97 (numStr ((7 : Nat) : Int))
def R2 : SL := setL R1 K98 (numStr ((7 : Nat) : Int))
def R3 : SL := sdel R2 K98
theorem key87 : keyStr 8 (fun _ => ((7 : Nat) : Int)) 1 = K87 := by decide +kernel
theorem key97 : keyStr 9 (fun _ => ((7 : Nat) : Int)) 1 = K97 := by decide +kernel
theorem key88 : keyStr 8 (fun _ => ((8 : Nat) : Int)) 1 = K88 := by decide +kernel
theorem key98 : keyStr 9 (fun _ => ((8 : Nat) : Int)) 1 = K98 := by decide +kernel
theorem R1a : intAt R1 K87 1 := .inr (by decide +kernel)
theorem R1b : intAt R1 K98 0 := .inl ⟨rfl, by decide +kernel⟩
theorem R2a : intAt R2 K88 0 := .inl ⟨rfl, by decide +kernel⟩
theorem R2b : intAt R2 K98 7 := .inr (by decide +kernel)
theorem R3a : intAt R3 K87 1 := .inr (by decide +kernel)
theorem R3b : intAt R3 K97 7 := .inr (by decide +kernel)
end Go.Proofs.YtoaepgiajooecaaGreat
