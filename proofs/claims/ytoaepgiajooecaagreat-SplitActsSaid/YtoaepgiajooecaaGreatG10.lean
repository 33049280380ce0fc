/- The numbers of a key's bytes are the numbers that the key was made of: lists alone. -/
import Derived.Test.YtoaepgiajooecaaGreatG09
import Derived.Test.YtoaepgiajooecaaGreatG02
import Derived.Test.YtoaepgiajooecaaGreatG01
import Derived.Test.YtoaepgiajooecaaGreatG07
import Derived.Deep.RegionLaw
namespace Go.Proofs.YtoaepgiajooecaaGreat

theorem u8l_getD {l : List Nat} {i : Nat} (x : List UInt8) (h : i < l.length) (hb : ∀ y ∈ l, y < 256) : ((u8l l ++ x).getD i 0).toNat = l.getD i 0 := by
  have h2 : i < (u8l l).length := by rw [u8l, List.length_map]; exact h
  rw [List.getD, List.getElem?_append_left h2, u8l, List.getElem?_map, List.getElem?_eq_getElem h, List.getD, List.getElem?_eq_getElem h]
  simp only [Option.map_some, Option.getD_some]
  rw [UInt8.toNat_ofNat', Nat.mod_eq_of_lt (hb _ (List.getElem_mem h))]
theorem kb8_lt (a : Nat) : ∀ y ∈ kb8 a, y < 256 := by
  intro y hy
  simp only [kb8, List.mem_cons, List.not_mem_nil, or_false] at hy
  rcases hy with rfl | rfl | rfl | rfl | rfl | rfl | rfl | rfl <;> exact kbyte_lt _ _
theorem numl_kb8 {a : Nat} (x : List UInt8) (ha : a < 2 ^ 64) : numl (u8l (kb8 a) ++ x) 8 = a := by
  have g : ∀ i, i < 8 → ((u8l (kb8 a) ++ x).getD i 0).toNat = (kb8 a).getD i 0 := fun i hi => u8l_getD x hi (kb8_lt a)
  simp only [numl]
  rw [g 0 (by decide), g 1 (by decide), g 2 (by decide), g 3 (by decide), g 4 (by decide), g 5 (by decide), g 6 (by decide), g 7 (by decide)]
  simp only [kb8, List.getD_cons_zero, List.getD_cons_succ, kbyte]
  omega
theorem drop_tl (f : Nat → Int) : ∀ (i r d : Nat), i ≤ d → (u8l (tl f r d)).drop (8 * i) = u8l (tl f (r + i) (d - i))
  | 0, r, d, _ => by simp
  | i + 1, r, d + 1, h => by
    have hl : (u8l (kb8 (f r).toNat)).length = 8 := rfl
    have e8 : (u8l (kb8 (f r).toNat)).drop 8 = [] := List.drop_of_length_le (by omega)
    rw [tl, u8l_append, show 8 * (i + 1) = 8 + 8 * i by omega, ← List.drop_drop, List.drop_append_of_le_length (by omega), e8, List.nil_append, drop_tl f i (r + 1) d (by omega)]
    rw [show r + 1 + i = r + (i + 1) by omega, show d + 1 - (i + 1) = d - i by omega]
theorem chunk_tl {v : ByteArray} {f : Nat → Int} {n i : Nat} (hv : v.data.toList = u8l (tl f 0 n)) (hi : i < n) (hf : f i < 2 ^ 63) : chunk v i = (f i).toNat := by
  unfold chunk
  rw [hv, drop_tl f i 0 n (by omega), Nat.zero_add, show n - i = (n - i - 1) + 1 by omega, tl, u8l_append]
  exact numl_kb8 _ (by omega)
end Go.Proofs.YtoaepgiajooecaaGreat

namespace Go.Proofs.YtoaepgiajooecaaGreat
open Go.RowKit Go.Maps

/-- behind a step of W to W' the store b has the entries L, and at most q changes -/
def LiveTo (w W W' : World) (b : Nat) (F : List Nat) (L : SL) (q : Nat) : Prop :=
  ∃ F' q' qs', SNew w W' b F' L q' qs' ∧ q' ≤ q ∧ Touch F W W' ∧ ∀ k ∈ F', k ∈ F ∨ W.heap.size ≤ k
theorem LiveTo.pre {w W W1 W' : World} {b : Nat} {F : List Nat} {L : SL} {q : Nat} (h : LiveTo w W1 W' b F L q) (h1 : Below W.heap.size W W1) : LiveTo w W W' b F L q := by
  obtain ⟨F', q', qs', hs, hq, ht, hf⟩ := h
  refine ⟨F', q', qs', hs, hq, (Touch.of_below h1).trans (fun _ hk => .inl hk) ht, fun k hk => ?_⟩
  rcases hf k hk with h | h
  · exact .inl h
  · right; have := h1.size; omega
theorem LiveTo.post {w W W1 W' : World} {b : Nat} {F : List Nat} {L : SL} {q : Nat} (h : LiveTo w W W1 b F L q) (h1 : Below W1.heap.size W1 W') : LiveTo w W W' b F L q := by
  obtain ⟨F', q', qs', hs, hq, ht, hf⟩ := h
  exact ⟨F', q', qs', hs.below h1, hq, ht.trans (F' := []) (fun _ hk => by cases hk) (Touch.of_below h1), hf⟩
theorem SNew.same {w W W' : World} {b : Nat} {F : List Nat} {L : SL} {q : Nat} {qs : List Value} (h : SNew w W b F L q qs) (hb : Below W.heap.size W W') : LiveTo w W W' b F L q :=
  ⟨F, q, qs, h.below hb, Nat.le_refl _, Touch.of_below hb, fun _ hk => .inl hk⟩
theorem SNew.sets {w W : World} {b : Nat} {F : List Nat} {L : SL} {q : Nat} {qs : List Value} (h : SNew w W b F L q qs) (k v : ByteArray) (hk : k.size ≤ maxLen) (hv : v.size ≤ maxLen) (hk0 : k ≠ ⟨#[]⟩) (hN : L.length < 1000000) (hq : q < 1000000) :
    Calls Tryz.prog 88 #[.pointer (some ⟨b, 0, none⟩), .string k, .string v] W fun e W' => e = .returned (.int .i64 0) ∧ LiveTo w W W' b F (setL L k v) (q + 1) := by
  by_cases hs : sget L k = some v
  · rw [show setL L k v = L by unfold setL; rw [if_pos hs]]
    refine (_root_.Go.Proofs.YtoaepgiajooecaaGreat.set_same b F L q qs k v W h.s hk hk0 hs).mono ?_
    rintro e W' ⟨he, F', hs, ht, hf⟩
    exact ⟨he, F', q, qs, h.set hs ht hf, by omega, ht, hf⟩
  · rw [show setL L k v = sset L k v by unfold setL; rw [if_neg hs]]
    obtain ⟨bm, vb, vk, vq, hF, hM⟩ := h.s
    refine (_root_.Go.Proofs.YtoaepgiajooecaaGreat.set_new b bm vb vk vq L q qs k v W hM hk hv hk0 hN hq hs).mono ?_
    rintro e W' ⟨he, F', hs, ht, hf⟩
    rw [← hF] at ht hf
    exact ⟨he, F', _, _, h.set hs ht hf, Nat.le_refl _, ht, hf⟩
set_option maxRecDepth 100000 in
set_option maxHeartbeats 1000000 in
theorem sdel_none (b : Nat) (F : List Nat) (L : SL) (q : Nat) (qs : List Value) (k : ByteArray) (w : World) (h : StP w b F L q qs) (hk : k.size ≤ maxLen) (he : sget L k = none) :
    Calls Tryz.prog 87 #[.pointer (some ⟨b, 0, none⟩), .string k] w fun e w' => e = .returned (.bool false) ∧ Below w.heap.size w w' := by
  have HM := Lib.hid (made_live b F L q qs w h)
  obtain ⟨bm, vb, vk, vq, rfl, hS⟩ := h
  have hl := hS.m.look k hk
  rw [he] at hl
  replace hl : (Instr.lookup 73 (.map (some bm)) (.string k) true).run Tryz.prog w = .ok (.tuple #[.agg #[.string ⟨#[]⟩], .bool false]) w := hl
  have c0 := (hp_cell (i := 0) hS.r).trans rfl
  clear hS hk he
  go_enter Tryz.func87, Tryz.ntmps87
  go_wp2_with (go_at_call 18; refine HM.out.mono ?_; rintro e w1 ⟨rfl, rfl⟩)
  go_ret
  exact ⟨rfl, (Below.refl _ _).alloc (Nat.le_refl _) _⟩
theorem SNew.del_none {w W : World} {b : Nat} {F : List Nat} {L : SL} {q : Nat} {qs : List Value} (h : SNew w W b F L q qs) (k : ByteArray) (hk : k.size ≤ maxLen) (he : sget L k = none) :
    Calls Tryz.prog 87 #[.pointer (some ⟨b, 0, none⟩), .string k] W fun e W' => e = .returned (.bool false) ∧ LiveTo w W W' b F L q := by
  refine (sdel_none b F L q qs k W h.s hk he).mono ?_
  rintro e W' ⟨he, hb⟩
  exact ⟨he, h.same hb⟩
set_option maxRecDepth 100000 in
set_option maxHeartbeats 1000000 in
theorem cput_set {w W : World} {b : Nat} {F : List Nat} {L : SL} {q : Nat} {qs : List Value} (h : SNew w W b F L q qs) (k v : ByteArray) (hk : k.size ≤ maxLen) (hv : v.size ≤ maxLen) (hk0 : k ≠ ⟨#[]⟩) (hv0 : v ≠ ⟨#[]⟩) (hN : L.length < 1000000) (hq : q < 1000000) :
    Calls Tryz.prog 64 #[.pointer (some ⟨b, 0, none⟩), .string k, .string v] W fun e W' => e = .returned (.tuple #[]) ∧ LiveTo w W W' b F (setL L k v) (q + 1) := by
  have HS := Lib.hid (h.sets k v hk hv hk0 hN hq)
  have hv1 := ba_nil hv0
  clear h hk hv hk0 hv0 hN hq
  go_enter Tryz.func64, Tryz.ntmps64
  go_wp2_with (go_at_call 88; refine HS.out.mono ?_; rintro e w1 ⟨rfl, h1⟩; have H1 := Lib.hid h1; clear h1)
  go_end0
  exact ⟨rfl, H1.out⟩
set_option maxRecDepth 100000 in
set_option maxHeartbeats 1000000 in
theorem cput_none {w W : World} {b : Nat} {F : List Nat} {L : SL} {q : Nat} {qs : List Value} (h : SNew w W b F L q qs) (k : ByteArray) (hk : k.size ≤ maxLen) (he : sget L k = none) :
    Calls Tryz.prog 64 #[.pointer (some ⟨b, 0, none⟩), .string k, .string ⟨#[]⟩] W fun e W' => e = .returned (.tuple #[]) ∧ LiveTo w W W' b F L q := by
  have HS := Lib.hid (h.del_none k hk he)
  clear h hk he
  go_enter Tryz.func64, Tryz.ntmps64
  go_wp2_with (go_at_call 87; refine HS.out.mono ?_; rintro e w1 ⟨rfl, h1⟩; have H1 := Lib.hid h1; clear h1)
  refine bodyPost_ret (v := .tuple #[]) (by simp [results, Tryz.results64, go_sem]) rfl ⟨rfl, H1.out⟩
theorem numStr_sizeA (x : Int) : (numStr x).size = 8 := by unfold numStr; rw [strOfNums_size]; simp [ints, kb8]
theorem numStr_ne (x : Int) : numStr x ≠ ⟨#[]⟩ := by
  intro e
  have := numStr_sizeA x
  rw [e] at this
  exact absurd this (by decide)
theorem chunk_numStr {n : Nat} (h : n < 2 ^ 63) : chunk (numStr n) 0 = n := by
  have e : (numStr n).data.toList = u8l (kb8 n) := by
    unfold numStr
    rw [Int.max_eq_left (by omega), Int.toNat_natCast, ← Lib.toList_data]
    exact strOfNums_u8l _
  unfold chunk
  rw [e, Nat.mul_zero, List.drop_zero]
  have := numl_kb8 (a := n) [] (by omega)
  rwa [List.append_nil] at this
set_option maxRecDepth 100000 in
set_option maxHeartbeats 1000000 in
theorem csetInt_set {w W : World} {b : Nat} {F : List Nat} {L : SL} {q : Nat} {qs : List Value} (h : SNew w W b F L q qs) (k : ByteArray) (n : Int) (hk : k.size ≤ maxLen) (hk0 : k ≠ ⟨#[]⟩) (h1 : 1 ≤ n) (h2 : n < 2 ^ 63) (hN : L.length < 1000000) (hq : q < 1000000) :
    Calls Tryz.prog 38 #[.pointer (some ⟨b, 0, none⟩), .string k, .int .i64 n] W fun e W' => e = .returned (.tuple #[]) ∧ LiveTo w W W' b F (setL L k (numStr n)) (q + 1) := by
  have HN := Lib.hid (knum_walk n W h2)
  have HS := Lib.hid (fun (W1 : World) (hb : Below W.heap.size W W1) => (cput_set (h.below hb) k (numStr n) hk (by rw [numStr_sizeA]; decide) hk0 (numStr_ne n) hN hq).mono fun e W' hp => (⟨hp.1, hp.2.pre hb⟩ : e = .returned (.tuple #[]) ∧ LiveTo w W W' b F (setL L k (numStr n)) (q + 1)))
  have p1 : ¬ n < 1 := by omega
  clear h hk hk0 h1 h2 hN hq
  go_enter Tryz.func38, Tryz.ntmps38
  go_wp2_with (first
    | (go_at_call 64; refine (HS.out w1 HB1.out).mono ?_; rintro e w2 ⟨rfl, h1⟩; have H1 := Lib.hid h1; clear h1)
    | (go_at_call 65; refine HN.out.mono ?_; rintro e w1 ⟨rfl, hb1⟩; have HB1 := Lib.hid hb1; clear hb1))
  go_end0
  exact ⟨rfl, H1.out⟩
set_option maxRecDepth 100000 in
set_option maxHeartbeats 1000000 in
theorem csetInt_none {w W : World} {b : Nat} {F : List Nat} {L : SL} {q : Nat} {qs : List Value} (h : SNew w W b F L q qs) (k : ByteArray) (n : Int) (hk : k.size ≤ maxLen) (he : sget L k = none) (h1 : n < 1) :
    Calls Tryz.prog 38 #[.pointer (some ⟨b, 0, none⟩), .string k, .int .i64 n] W fun e W' => e = .returned (.tuple #[]) ∧ LiveTo w W W' b F L q := by
  have HS := Lib.hid (cput_none h k hk he)
  clear h hk he
  go_enter Tryz.func38, Tryz.ntmps38
  go_wp2_with (go_at_call 64; refine HS.out.mono ?_; rintro e w2 ⟨rfl, h1⟩; have H1 := Lib.hid h1; clear h1)
  refine bodyPost_ret (v := .tuple #[]) (by simp [results, Tryz.results38, go_sem]) rfl ⟨rfl, H1.out⟩
theorem nums_one (n : Nat) (w : World) (hn : n < 2 ^ 63) : Calls Tryz.prog 92 #[.string (numStr n)] w fun e w' => e = .returned (.tuple #[.slice (some ⟨w.heap.size, 0, none⟩) 1 1, .bool true]) ∧ w'.cell? ⟨w.heap.size, 0, none⟩ = some (.int .i64 (n : Nat)) ∧ w.heap.size < w'.heap.size ∧ Below w.heap.size w w' := by
  refine (nums_walk (numStr n) 1 w (by rw [numStr_sizeA]) (by omega)).mono ?_
  rintro e w' ⟨⟨_, he, hr⟩ | ⟨⟨i, hi, hne⟩, _⟩, hb⟩
  · refine ⟨he, ?_, (hr.lt w.heap.size rfl).2, hb⟩
    have := hr.cellAt 0 (by omega)
    simpa [i64n, chunk_numStr hn] using this
  · obtain rfl : i = 0 := by omega
    rw [chunk_numStr hn] at hne
    exact absurd hn hne
set_option maxRecDepth 100000 in
set_option maxHeartbeats 1000000 in
theorem numbers_one {w W : World} {b : Nat} {F : List Nat} {L : SL} {q : Nat} {qs : List Value} (h : SNew w W b F L q qs) (k : ByteArray) (n : Nat) (hk : k.size ≤ maxLen) (he : sget L k = some (numStr n)) (hn : n < 2 ^ 63) :
    Calls Tryz.prog 72 #[.func (Fn.func 73) #[.pointer (some ⟨b, 0, none⟩)] #[], .string k] W fun e W' => (∃ g, e = .returned (.slice (some ⟨g, 0, none⟩) 1 1) ∧ W'.cell? ⟨g, 0, none⟩ = some (.int .i64 (n : Nat)) ∧ g < W'.heap.size) ∧ Below W.heap.size W W' := by
  have HG := Lib.hid (h.get_some k (numStr n) hk he)
  have HN := Lib.hid (fun w => nums_one n w hn)
  clear h hk he hn
  go_enter Tryz.func72, Tryz.ntmps72
  go_wp2_with (first
    | (go_at_call 92; refine (HN.out w1).mono ?_; rintro e w2 ⟨rfl, hc, hl, hb⟩; have HC := Lib.hid hc; have HL := Lib.hid hl; have HB2 := Lib.hid (HB1.out.trans (hb.mono HB1.out.size)); clear hc hl hb)
    | (go_at_call 73; refine HG.out.mono ?_; rintro e w1 ⟨rfl, _, hb1⟩; have HB1 := Lib.hid hb1; clear hb1))
  go_ret
  exact ⟨⟨_, rfl, HC.out, HL.out⟩, HB2.out⟩
set_option maxRecDepth 100000 in
set_option maxHeartbeats 1000000 in
theorem numbers_none {w W : World} {b : Nat} {F : List Nat} {L : SL} {q : Nat} {qs : List Value} (h : SNew w W b F L q qs) (k : ByteArray) (hk : k.size ≤ maxLen) (he : sget L k = none) :
    Calls Tryz.prog 72 #[.func (Fn.func 73) #[.pointer (some ⟨b, 0, none⟩)] #[], .string k] W fun e W' => (∃ g, e = .returned (.slice (some ⟨g, 0, none⟩) 0 0)) ∧ Below W.heap.size W W' := by
  have HG := Lib.hid (h.get_none k hk he)
  have HN := Lib.hid nums_none
  clear h hk he
  go_enter Tryz.func72, Tryz.ntmps72
  go_wp2_with (first
    | (go_at_call 92; refine (HN.out w1).mono ?_; rintro e w2 ⟨rfl, hb⟩; have HB2 := Lib.hid (HB1.out.trans (hb.mono HB1.out.size)); clear hb)
    | (go_at_call 73; refine HG.out.mono ?_; rintro e w1 ⟨rfl, _, hb1⟩; have HB1 := Lib.hid hb1; clear hb1))
  go_ret
  exact ⟨⟨_, rfl⟩, HB2.out⟩
set_option maxRecDepth 100000 in
set_option maxHeartbeats 1000000 in
theorem cint_some {w W : World} {b : Nat} {F : List Nat} {L : SL} {q : Nat} {qs : List Value} (h : SNew w W b F L q qs) (k : ByteArray) (n : Nat) (hk : k.size ≤ maxLen) (he : sget L k = some (numStr n)) (hn : n < 2 ^ 63) :
    Calls Tryz.prog 63 #[.pointer (some ⟨b, 0, none⟩), .string k] W fun e W' => e = .returned (.int .i64 (n : Nat)) ∧ Below W.heap.size W W' := by
  have HN := Lib.hid (numbers_one h k n hk he hn)
  clear h hk he hn
  go_enter Tryz.func63, Tryz.ntmps63
  go_wp2_with (go_at_call 72; refine HN.out.mono ?_; rintro e w1 ⟨⟨g, rfl, hc, hl⟩, hb1⟩; have HB1 := Lib.hid hb1; clear hb1)
  go_ret
  exact ⟨rfl, HB1.out⟩
set_option maxRecDepth 100000 in
set_option maxHeartbeats 1000000 in
theorem cint_none {w W : World} {b : Nat} {F : List Nat} {L : SL} {q : Nat} {qs : List Value} (h : SNew w W b F L q qs) (k : ByteArray) (hk : k.size ≤ maxLen) (he : sget L k = none) :
    Calls Tryz.prog 63 #[.pointer (some ⟨b, 0, none⟩), .string k] W fun e W' => e = .returned (.int .i64 0) ∧ Below W.heap.size W W' := by
  have HN := Lib.hid (numbers_none h k hk he)
  clear h hk he
  go_enter Tryz.func63, Tryz.ntmps63
  go_wp2_with (go_at_call 72; refine HN.out.mono ?_; rintro e w1 ⟨⟨g, rfl⟩, hb1⟩; have HB1 := Lib.hid hb1; clear hb1)
  go_ret
  exact ⟨rfl, HB1.out⟩
set_option maxRecDepth 100000 in
set_option maxHeartbeats 1000000 in
theorem cint_dead (p : Value) (k : ByteArray) (w : World) (h : SDead w p) : Calls Tryz.prog 63 #[p, .string k] w fun e w' => e = .returned (.int .i64 0) ∧ Below w.heap.size w w' := by
  have HN := Lib.hid (numbers_dead p k w h)
  clear h
  go_enter Tryz.func63, Tryz.ntmps63
  go_wp2_with (go_at_call 72; refine HN.out.mono ?_; rintro e w1 ⟨rfl, hb1⟩; have HB1 := Lib.hid hb1; clear hb1)
  go_ret
  exact ⟨rfl, HB1.out⟩
end Go.Proofs.YtoaepgiajooecaaGreat

namespace Go.Proofs.YtoaepgiajooecaaGreat
open Go.RowKit Go.Maps Go.Sort

set_option maxRecDepth 100000 in
set_option maxHeartbeats 4000000 in
theorem del_live (b bm : Nat) (vb : Value) (vk : List Seg) (vq : Value) (L : SL) (q : Nat) (qs : List Value) (k old : ByteArray) (w : World) (h : StM w b bm vb vk vq L q qs) (hk : k.size ≤ maxLen) (hN : L.length ≤ 1000000) (hq : q < 1000000) (hin : sget L k = some old) :
    Calls Tryz.prog 87 #[.pointer (some ⟨b, 0, none⟩), .string k] w fun e w' => e = .returned (.bool true) ∧ ∃ F', StP w' b F' (sdel L k) (q + 1) (qs ++ chg k true old) ∧ Touch (fpr b bm vb vk vq L) w w' ∧ ∀ k ∈ F', k ∈ fpr b bm vb vk vq L ∨ w.heap.size ≤ k := by
  have hl := h.m.look k hk
  rw [hin] at hl
  replace hl : (Instr.lookup 73 (.map (some bm)) (.string k) true).run Tryz.prog w = .ok (.tuple #[.agg #[.string old], .bool true]) w := hl
  have c0 := (hp_cell (i := 0) h.r).trans rfl
  have lb := hp_lt h.r
  have HM := Lib.hid (made_live b _ L q qs w ⟨bm, vb, vk, vq, rfl, h⟩)
  obtain ⟨W, hW⟩ : ∃ W, W = w.alloc (.cells #[.string old] 100) := ⟨_, rfl⟩
  have hbW : Below w.heap.size w W := by rw [hW]; exact (Below.refl w.heap.size w).alloc (Nat.le_refl _) _
  have hSW := h.below hbW
  have hr7 : W.heap[w.heap.size]? = some (.cells #[.string old] 100 (0, 0)) := by rw [hW]; exact heap_alloc_new _ _
  obtain ⟨i0, hi, hz0, hz1, hz2⟩ := info_parts infoChange
  have Hh := Lib.hid (And.intro hq (And.intro hbW hSW))
  have HW := Lib.hid hW
  have d2 := (hp_cell (i := 2) hSW.r).trans rfl
  have d7 := (hp_cell (i := 0) hr7).trans rfl
  have lbW := hp_lt hSW.r
  have lwW := hp_lt hr7
  have HO := Lib.hid (fun (o : Obj) => show (W.drew.alloc o).ownsRow 0 155 3 vq q qs from ownsRow_same hSW.kq fun g hg => heap_alloc_old W.drew o (ownsRow_blk hSW.kq g hg))
  have HP := Lib.hid (fun (w' : World) (bm : Nat) (vb : Value) (vk : List Seg) (vq : Value) (q : Nat) (qs : List Value) (h' : StM w' b bm vb vk vq L q qs) => drop_live b bm vb vk vq L q qs k w' h' hk hN (by rw [hin]; rfl))
  clear h hk hN hq hin hW hbW hSW hr7
  go_enter Tryz.func87, Tryz.ntmps87
  go_upto_region 5 with (go_at_call 18; refine HM.out.mono ?_; rintro e w1 ⟨rfl, rfl⟩)
  rw [← HW.out]
  go_region_law (refine step_append_lies _ rfl (.tmp 24) (.tmp 29) 75 rfl 0 155 i0 _ 3 40 Tryz.underlying75 hi hz0 hz1 hz2 rfl (by decide) vq q qs (by simp [Act.eval]) (HO.out _) ⟨W.heap.size, 0, none⟩ 1 1 (chg k true old) (by simp [Act.eval]) rfl (chg_news W k old true) chg_one (by decide) (by have := Hh.out.1; unfold maxLen; omega) (by have := Hh.out.1; omega) (Nat.zero_le _) _ rfl ?_; intro g cap w5 hown hgrow hat hlt; have hr5 := chg_r Hh.out.2.2 hgrow; have e2 := (hp_cell (i := 2) hr5).trans rfl; have f2 := hp_free (i := 2) hr5; have HC := Lib.hid (chg_done Hh.out.2.2 hown hgrow (by simpa using hat)); clear hown hgrow hat hlt hr5)
  all_goals go_wp2_with (go_at_call 104; refine (HP.out _ bm vb vk _ (q + 1) _ HC.out.1).mono ?_; rintro e w6 ⟨rfl, vb', vk', hM, ht, hF⟩; have HM6 := Lib.hid (set_done Hh.out.2.1 HC.out.2.1 HC.out.2.2 hM ht hF); clear hM ht hF)
  all_goals go_ret
  all_goals exact ⟨rfl, HM6.out.2⟩
/-- Delete of any key -/
theorem SNew.del {w W : World} {b : Nat} {F : List Nat} {L : SL} {q : Nat} {qs : List Value} (h : SNew w W b F L q qs) (k : ByteArray) (hk : k.size ≤ maxLen) (hN : L.length ≤ 1000000) (hq : q < 1000000) :
    Calls Tryz.prog 87 #[.pointer (some ⟨b, 0, none⟩), .string k] W fun e W' => e = .returned (.bool (sget L k).isSome) ∧ LiveTo w W W' b F (sdel L k) (q + 1) := by
  cases hs : sget L k with
  | none =>
    have e0 : sdel L k = L := by
      unfold sdel
      rw [List.filter_eq_self]
      intro p hp
      simp [sget_none (by rw [hs]; rfl) p hp]
    rw [e0]
    refine (h.del_none k hk hs).mono ?_
    rintro e W' ⟨he, F', q', qs', h1, h2, h3⟩
    exact ⟨he, F', q', qs', h1, by omega, h3⟩
  | some old =>
    obtain ⟨bm, vb, vk, vq, hF, hM⟩ := h.s
    refine (_root_.Go.Proofs.YtoaepgiajooecaaGreat.del_live b bm vb vk vq L q qs k old W hM hk hN hq hs).mono ?_
    rintro e W' ⟨he, F', h1, ht, hf⟩
    rw [← hF] at ht hf
    exact ⟨he, F', _, _, h.set h1 ht hf, Nat.le_refl _, ht, hf⟩
end Go.Proofs.YtoaepgiajooecaaGreat
