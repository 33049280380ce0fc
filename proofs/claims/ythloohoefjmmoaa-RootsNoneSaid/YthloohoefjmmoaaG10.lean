/- The store: drop and Delete of any key, walked. -/
import Derived.Test.YthloohoefjmmoaaG07
import Derived.Test.YthloohoefjmmoaaG09
import Derived.Deep.RegionLaw
namespace Go.Proofs.Ythloohoefjmmoaa
open Go.RowKit Go.Maps Go.Sort

set_option maxRecDepth 100000 in
set_option maxHeartbeats 4000000 in
theorem del_live (b bm : Nat) (vb : Value) (vk : List Seg) (vq : Value) (L : SL) (q : Nat) (qs : List Value) (k old : ByteArray) (w : World) (h : StM w b bm vb vk vq L q qs) (hk : k.size ≤ maxLen) (hN : L.length ≤ 1000000) (hq : q < 1000000) (hin : sget L k = some old) :
    Calls Try.prog 60 #[.pointer (some ⟨b, 0, none⟩), .string k] w fun e w' => e = .returned (.bool true) ∧ ∃ F', StP w' b F' (sdel L k) (q + 1) (qs ++ chg k true old) ∧ Touch (fpr b bm vb vk vq L) w w' ∧ ∀ k ∈ F', k ∈ fpr b bm vb vk vq L ∨ w.heap.size ≤ k := by
  have hl := h.m.look k hk
  rw [hin] at hl
  replace hl : (Instr.lookup 51 (.map (some bm)) (.string k) true).run Try.prog w = .ok (.tuple #[.agg #[.string old], .bool true]) w := hl
  have c0 := (hp_cell (i := 0) h.r).trans rfl
  have lb := hp_lt h.r
  have HM := Lib.hid (made_live b _ L q qs w ⟨bm, vb, vk, vq, rfl, h⟩)
  obtain ⟨W, hW⟩ : ∃ W, W = w.alloc (.cells #[.string old] 86) := ⟨_, rfl⟩
  have hbW : Below w.heap.size w W := by rw [hW]; exact (Below.refl w.heap.size w).alloc (Nat.le_refl _) _
  have hSW := h.below hbW
  have hr7 : W.heap[w.heap.size]? = some (.cells #[.string old] 86 (0, 0)) := by rw [hW]; exact heap_alloc_new _ _
  obtain ⟨i0, hi, hz0, hz1, hz2⟩ := info_parts infoChange
  have Hh := Lib.hid (And.intro hq (And.intro hbW hSW))
  have HW := Lib.hid hW
  have d2 := (hp_cell (i := 2) hSW.r).trans rfl
  have d7 := (hp_cell (i := 0) hr7).trans rfl
  have lbW := hp_lt hSW.r
  have lwW := hp_lt hr7
  have HO := Lib.hid (fun (o : Obj) => show (W.drew.alloc o).ownsRow 0 105 3 vq q qs from ownsRow_same hSW.kq fun g hg => heap_alloc_old W.drew o (ownsRow_blk hSW.kq g hg))
  have HP := Lib.hid (fun (w' : World) (bm : Nat) (vb : Value) (vk : List Seg) (vq : Value) (q : Nat) (qs : List Value) (h' : StM w' b bm vb vk vq L q qs) => drop_live b bm vb vk vq L q qs k w' h' hk hN (by rw [hin]; rfl))
  clear h hk hN hq hin hW hbW hSW hr7
  go_enter Try.func60, Try.ntmps60
  go_upto_region 5 with (go_at_call 31; refine HM.out.mono ?_; rintro e w1 ⟨rfl, rfl⟩)
  rw [← HW.out]
  go_region_law (refine step_append_lies _ rfl (.tmp 24) (.tmp 29) 53 rfl 0 105 i0 _ 3 40 Try.underlying53 hi hz0 hz1 hz2 rfl (by decide) vq q qs (by simp [Act.eval]) (HO.out _) ⟨W.heap.size, 0, none⟩ 1 1 (chg k true old) (by simp [Act.eval]) rfl (chg_news W k old true) chg_one (by decide) (by have := Hh.out.1; unfold maxLen; omega) (by have := Hh.out.1; omega) (Nat.zero_le _) _ rfl ?_; intro g cap w5 hown hgrow hat hlt; have hr5 := chg_r Hh.out.2.2 hgrow; have e2 := (hp_cell (i := 2) hr5).trans rfl; have f2 := hp_free (i := 2) hr5; have HC := Lib.hid (chg_done Hh.out.2.2 hown hgrow (by simpa using hat)); clear hown hgrow hat hlt hr5)
  all_goals go_wp2_with (go_at_call 65; refine (HP.out _ bm vb vk _ (q + 1) _ HC.out.1).mono ?_; rintro e w6 ⟨rfl, vb', vk', hM, ht, hF⟩; have HM6 := Lib.hid (set_done Hh.out.2.1 HC.out.2.1 HC.out.2.2 hM ht hF); clear hM ht hF)
  all_goals go_ret
  all_goals exact ⟨rfl, HM6.out.2⟩
/-- Delete of any key -/
theorem SNew.del {w W : World} {b : Nat} {F : List Nat} {L : SL} {q : Nat} {qs : List Value} (h : SNew w W b F L q qs) (k : ByteArray) (hk : k.size ≤ maxLen) (hN : L.length ≤ 1000000) (hq : q < 1000000) :
    Calls Try.prog 60 #[.pointer (some ⟨b, 0, none⟩), .string k] W fun e W' => e = .returned (.bool (sget L k).isSome) ∧ LiveTo w W W' b F (sdel L k) (q + 1) := by
  cases hs : sget L k with
  | none =>
    have e0 : sdel L k = L := by
      unfold sdel
      rw [List.filter_eq_self]
      intro p hp
      simp [sget_none (by rw [hs]; rfl) p hp]
    rw [e0]
    refine (h.del_none k hk hs).mono ?_
    rintro e W' ⟨he, F', q', qs', h1, h2, h3⟩
    exact ⟨he, F', q', qs', h1, by omega, h3⟩
  | some old =>
    obtain ⟨bm, vb, vk, vq, hF, hM⟩ := h.s
    refine (_root_.Go.Proofs.Ythloohoefjmmoaa.del_live b bm vb vk vq L q qs k old W hM hk hN hq hs).mono ?_
    rintro e W' ⟨he, F', h1, ht, hf⟩
    rw [← hF] at ht hf
    exact ⟨he, F', _, _, h.set h1 ht hf, Nat.le_refl _, ht, hf⟩
end Go.Proofs.Ythloohoefjmmoaa

namespace Go.Proofs.Ythloohoefjmmoaa
open Go.RowKit Go.Maps

/-- what put leaves: an empty value is not there -/
def putV (L : SL) (k v : ByteArray) : SL := if v = ⟨#[]⟩ then sdel L k else setL L k v
set_option maxRecDepth 100000 in
set_option maxHeartbeats 1000000 in
theorem cput_del {w W : World} {b : Nat} {F : List Nat} {L : SL} {q : Nat} {qs : List Value} (h : SNew w W b F L q qs) (k : ByteArray) (hk : k.size ≤ maxLen) (hN : L.length ≤ 1000000) (hq : q < 1000000) :
    Calls Try.prog 48 #[.pointer (some ⟨b, 0, none⟩), .string k, .string ⟨#[]⟩] W fun e W' => e = .returned (.tuple #[]) ∧ LiveTo w W W' b F (sdel L k) (q + 1) := by
  have HS := Lib.hid (h.del k hk hN hq)
  clear h hk hN hq
  go_enter Try.func48, Try.ntmps48
  go_wp2_with (go_at_call 60; refine HS.out.mono ?_; rintro e w1 ⟨rfl, h1⟩; have H1 := Lib.hid h1; clear h1)
  refine bodyPost_ret (v := .tuple #[]) (by simp [results, Try.results48, go_sem]) rfl ⟨rfl, H1.out⟩
theorem cput_any {w W : World} {b : Nat} {F : List Nat} {L : SL} {q : Nat} {qs : List Value} (h : SNew w W b F L q qs) (k v : ByteArray) (hk : k.size ≤ maxLen) (hv : v.size ≤ maxLen) (hk0 : k ≠ ⟨#[]⟩) (hN : L.length < 1000000) (hq : q < 1000000) :
    Calls Try.prog 48 #[.pointer (some ⟨b, 0, none⟩), .string k, .string v] W fun e W' => e = .returned (.tuple #[]) ∧ LiveTo w W W' b F (putV L k v) (q + 1) := by
  unfold putV
  by_cases hv0 : v = ⟨#[]⟩
  · rw [if_pos hv0, hv0]
    exact cput_del h k hk (by omega) hq
  · rw [if_neg hv0]
    exact cput_set h k v hk hv hk0 hv0 hN hq
set_option maxRecDepth 100000 in
set_option maxHeartbeats 1000000 in
theorem csetInt_del {w W : World} {b : Nat} {F : List Nat} {L : SL} {q : Nat} {qs : List Value} (h : SNew w W b F L q qs) (k : ByteArray) (n : Int) (hk : k.size ≤ maxLen) (h1 : n < 1) (hN : L.length ≤ 1000000) (hq : q < 1000000) :
    Calls Try.prog 45 #[.pointer (some ⟨b, 0, none⟩), .string k, .int .i64 n] W fun e W' => e = .returned (.tuple #[]) ∧ LiveTo w W W' b F (sdel L k) (q + 1) := by
  have HS := Lib.hid (cput_del h k hk hN hq)
  clear h hk hN hq
  go_enter Try.func45, Try.ntmps45
  go_wp2_with (go_at_call 48; refine HS.out.mono ?_; rintro e w2 ⟨rfl, h1⟩; have H1 := Lib.hid h1; clear h1)
  refine bodyPost_ret (v := .tuple #[]) (by simp [results, Try.results45, go_sem]) rfl ⟨rfl, H1.out⟩
theorem csetInt_any {w W : World} {b : Nat} {F : List Nat} {L : SL} {q : Nat} {qs : List Value} (h : SNew w W b F L q qs) (k : ByteArray) (n : Int) (hk : k.size ≤ maxLen) (hk0 : k ≠ ⟨#[]⟩) (h2 : n < 2 ^ 63) (hN : L.length < 1000000) (hq : q < 1000000) :
    Calls Try.prog 45 #[.pointer (some ⟨b, 0, none⟩), .string k, .int .i64 n] W fun e W' => e = .returned (.tuple #[]) ∧ LiveTo w W W' b F (if n < 1 then sdel L k else setL L k (numStr n)) (q + 1) := by
  by_cases h1 : n < 1
  · rw [if_pos h1]
    exact csetInt_del h k n hk h1 (by omega) hq
  · rw [if_neg h1]
    exact csetInt_set h k n hk hk0 (by omega) h2 hN hq
end Go.Proofs.Ythloohoefjmmoaa

namespace Go.Proofs.Ythloohoefjmmoaa
open Go.RowKit Go.Maps

/-- the number at a key -/
def intAt (L : SL) (k : ByteArray) (n : Nat) : Prop := (n = 0 ∧ sget L k = none) ∨ sget L k = some (numStr n)
set_option maxRecDepth 100000 in
set_option maxHeartbeats 1000000 in
theorem cint_at {w W : World} {b : Nat} {F : List Nat} {L : SL} {q : Nat} {qs : List Value} (h : SNew w W b F L q qs) (k : ByteArray) (n : Nat) (hk : k.size ≤ maxLen) (he : intAt L k n) (hn : n < 2 ^ 63) :
    Calls Try.prog 21 #[.pointer (some ⟨b, 0, none⟩), .string k] W fun e W' => e = .returned (.int .i64 (n : Nat)) ∧ Below W.heap.size W W' := by
  rcases he with ⟨rfl, he⟩ | he
  · exact cint_none h k hk he
  · exact cint_some h k n hk he hn
set_option maxRecDepth 100000 in
set_option maxHeartbeats 1000000 in
theorem cnext_walk {w W : World} {b : Nat} {F : List Nat} {L : SL} {q : Nat} {qs : List Value} (h : SNew w W b F L q qs) (k : ByteArray) (n : Nat) (hk : k.size ≤ maxLen) (hk0 : k ≠ ⟨#[]⟩) (he : intAt L k n) (hn : n + 1 < 2 ^ 63) (hN : L.length < 1000000) (hq : q < 1000000) :
    Calls Try.prog 32 #[.pointer (some ⟨b, 0, none⟩), .string k] W fun e W' => e = .returned (.int .i64 ((n : Int) + 1)) ∧ LiveTo w W W' b F (setL L k (numStr ((n : Int) + 1))) (q + 1) := by
  have HM := Lib.hid (made_live b F L q qs W h.s)
  have HI := Lib.hid (cint_at h k n hk he (by omega))
  have HS := Lib.hid (fun (W1 : World) (hb : Below W.heap.size W W1) => (csetInt_set (h.below hb) k ((n : Int) + 1) hk hk0 (by omega) (by omega) hN hq).mono fun e W' hp => (⟨hp.1, hp.2.pre hb⟩ : e = .returned (.tuple #[]) ∧ LiveTo w W W' b F (setL L k (numStr ((n : Int) + 1))) (q + 1)))
  have p1 : (n : Int) < 9223372036854775807 := by omega
  obtain ⟨L', hL'⟩ : ∃ y, y = setL L k (numStr ((n : Int) + 1)) := ⟨_, rfl⟩
  rw [← hL'] at HS ⊢
  clear h hk hk0 he hn hN hq hL'
  go_enter Try.func32, Try.ntmps32
  go_wp2_with (first
    | (go_at_call 45; refine (HS.out w2 HB2.out).mono ?_; rintro e w3 ⟨rfl, h3⟩; have H3 := Lib.hid h3; clear h3)
    | (go_at_call 21; refine HI.out.mono ?_; rintro e w2 ⟨rfl, hb2⟩; have HB2 := Lib.hid hb2; clear hb2)
    | (go_at_call 31; refine HM.out.mono ?_; rintro e w1 ⟨rfl, rfl⟩))
  go_ret
  exact ⟨rfl, H3.out⟩
end Go.Proofs.Ythloohoefjmmoaa
