/- The numbers of a key's bytes are the numbers that the key was made of: lists alone. -/
import Derived.Test.YtedkhpnlhkjjgaaG08
import Derived.Test.YtedkhpnlhkjjgaaG03
import Derived.Test.YtedkhpnlhkjjgaaG07
import Derived.Deep.RegionWith
namespace Go.Proofs.Ytedkhpnlhkjjgaa

theorem u8l_getD {l : List Nat} {i : Nat} (x : List UInt8) (h : i < l.length) (hb : ∀ y ∈ l, y < 256) : ((u8l l ++ x).getD i 0).toNat = l.getD i 0 := by
  have h2 : i < (u8l l).length := by rw [u8l, List.length_map]; exact h
  rw [List.getD, List.getElem?_append_left h2, u8l, List.getElem?_map, List.getElem?_eq_getElem h, List.getD, List.getElem?_eq_getElem h]
  simp only [Option.map_some, Option.getD_some]
  rw [UInt8.toNat_ofNat', Nat.mod_eq_of_lt (hb _ (List.getElem_mem h))]
theorem kb8_lt (a : Nat) : ∀ y ∈ kb8 a, y < 256 := by
  intro y hy
  simp only [kb8, List.mem_cons, List.not_mem_nil, or_false] at hy
  rcases hy with rfl | rfl | rfl | rfl | rfl | rfl | rfl | rfl <;> exact kbyte_lt _ _
theorem numl_kb8 {a : Nat} (x : List UInt8) (ha : a < 2 ^ 64) : numl (u8l (kb8 a) ++ x) 8 = a := by
  have g : ∀ i, i < 8 → ((u8l (kb8 a) ++ x).getD i 0).toNat = (kb8 a).getD i 0 := fun i hi => u8l_getD x hi (kb8_lt a)
  simp only [numl]
  rw [g 0 (by decide), g 1 (by decide), g 2 (by decide), g 3 (by decide), g 4 (by decide), g 5 (by decide), g 6 (by decide), g 7 (by decide)]
  simp only [kb8, List.getD_cons_zero, List.getD_cons_succ, kbyte]
  omega
theorem drop_tl (f : Nat → Int) : ∀ (i r d : Nat), i ≤ d → (u8l (tl f r d)).drop (8 * i) = u8l (tl f (r + i) (d - i))
  | 0, r, d, _ => by simp
  | i + 1, r, d + 1, h => by
    have hl : (u8l (kb8 (f r).toNat)).length = 8 := rfl
    have e8 : (u8l (kb8 (f r).toNat)).drop 8 = [] := List.drop_of_length_le (by omega)
    rw [tl, u8l_append, show 8 * (i + 1) = 8 + 8 * i by omega, ← List.drop_drop, List.drop_append_of_le_length (by omega), e8, List.nil_append, drop_tl f i (r + 1) d (by omega)]
    rw [show r + 1 + i = r + (i + 1) by omega, show d + 1 - (i + 1) = d - i by omega]
theorem chunk_tl {v : ByteArray} {f : Nat → Int} {n i : Nat} (hv : v.data.toList = u8l (tl f 0 n)) (hi : i < n) (hf : f i < 2 ^ 63) : chunk v i = (f i).toNat := by
  unfold chunk
  rw [hv, drop_tl f i 0 n (by omega), Nat.zero_add, show n - i = (n - i - 1) + 1 by omega, tl, u8l_append]
  exact numl_kb8 _ (by omega)
end Go.Proofs.Ytedkhpnlhkjjgaa

namespace Go.Proofs.Ytedkhpnlhkjjgaa
open Go.RowKit Go.Maps

/-- behind a step of W to W' the store b has the entries L, and at most q changes -/
def LiveTo (w W W' : World) (b : Nat) (F : List Nat) (L : SL) (q : Nat) : Prop :=
  ∃ F' q' qs', SNew w W' b F' L q' qs' ∧ q' ≤ q ∧ Touch F W W' ∧ ∀ k ∈ F', k ∈ F ∨ W.heap.size ≤ k
theorem LiveTo.pre {w W W1 W' : World} {b : Nat} {F : List Nat} {L : SL} {q : Nat} (h : LiveTo w W1 W' b F L q) (h1 : Below W.heap.size W W1) : LiveTo w W W' b F L q := by
  obtain ⟨F', q', qs', hs, hq, ht, hf⟩ := h
  refine ⟨F', q', qs', hs, hq, (Touch.of_below h1).trans (fun _ hk => .inl hk) ht, fun k hk => ?_⟩
  rcases hf k hk with h | h
  · exact .inl h
  · right; have := h1.size; omega
theorem LiveTo.post {w W W1 W' : World} {b : Nat} {F : List Nat} {L : SL} {q : Nat} (h : LiveTo w W W1 b F L q) (h1 : Below W1.heap.size W1 W') : LiveTo w W W' b F L q := by
  obtain ⟨F', q', qs', hs, hq, ht, hf⟩ := h
  exact ⟨F', q', qs', hs.below h1, hq, ht.trans (F' := []) (fun _ hk => by cases hk) (Touch.of_below h1), hf⟩
theorem SNew.same {w W W' : World} {b : Nat} {F : List Nat} {L : SL} {q : Nat} {qs : List Value} (h : SNew w W b F L q qs) (hb : Below W.heap.size W W') : LiveTo w W W' b F L q :=
  ⟨F, q, qs, h.below hb, Nat.le_refl _, Touch.of_below hb, fun _ hk => .inl hk⟩
theorem SNew.sets {w W : World} {b : Nat} {F : List Nat} {L : SL} {q : Nat} {qs : List Value} (h : SNew w W b F L q qs) (k v : ByteArray) (hk : k.size ≤ maxLen) (hv : v.size ≤ maxLen) (hk0 : k ≠ ⟨#[]⟩) (hN : L.length < 128) (hq : q < 1000000) :
    Calls Try.prog 64 #[.pointer (some ⟨b, 0, none⟩), .string k, .string v] W fun e W' => e = .returned (.int .i64 0) ∧ LiveTo w W W' b F (setL L k v) (q + 1) := by
  by_cases hs : sget L k = some v
  · rw [show setL L k v = L by unfold setL; rw [if_pos hs]]
    refine (_root_.Go.Proofs.Ytedkhpnlhkjjgaa.set_same b F L q qs k v W h.s hk hk0 hs).mono ?_
    rintro e W' ⟨he, F', hs, ht, hf⟩
    exact ⟨he, F', q, qs, h.set hs ht hf, by omega, ht, hf⟩
  · rw [show setL L k v = sset L k v by unfold setL; rw [if_neg hs]]
    obtain ⟨bm, vb, vk, vq, hF, hM⟩ := h.s
    refine (_root_.Go.Proofs.Ytedkhpnlhkjjgaa.set_new b bm vb vk vq L q qs k v W hM hk hv hk0 hN hq hs).mono ?_
    rintro e W' ⟨he, F', hs, ht, hf⟩
    rw [← hF] at ht hf
    exact ⟨he, F', _, _, h.set hs ht hf, Nat.le_refl _, ht, hf⟩
set_option maxRecDepth 100000 in
set_option maxHeartbeats 1000000 in
theorem sdel_none (b : Nat) (F : List Nat) (L : SL) (q : Nat) (qs : List Value) (k : ByteArray) (w : World) (h : StP w b F L q qs) (hk : k.size ≤ maxLen) (he : sget L k = none) :
    Calls Try.prog 76 #[.pointer (some ⟨b, 0, none⟩), .string k] w fun e w' => e = .returned (.bool false) ∧ Below w.heap.size w w' := by
  have HM := Lib.hid (made_live b F L q qs w h)
  obtain ⟨bm, vb, vk, vq, rfl, hS⟩ := h
  have hl := hS.m.look k hk
  rw [he] at hl
  replace hl : (Instr.lookup 103 (.map (some bm)) (.string k) true).run Try.prog w = .ok (.tuple #[.agg #[.string ⟨#[]⟩], .bool false]) w := hl
  have c0 := (hp_cell (i := 0) hS.r).trans rfl
  clear hS hk he
  go_enter Try.func76, Try.ntmps76
  go_wp2_with (go_at_call 27; refine HM.out.mono ?_; rintro e w1 ⟨rfl, rfl⟩)
  go_ret
  exact ⟨rfl, (Below.refl _ _).alloc (Nat.le_refl _) _⟩
theorem SNew.del_none {w W : World} {b : Nat} {F : List Nat} {L : SL} {q : Nat} {qs : List Value} (h : SNew w W b F L q qs) (k : ByteArray) (hk : k.size ≤ maxLen) (he : sget L k = none) :
    Calls Try.prog 76 #[.pointer (some ⟨b, 0, none⟩), .string k] W fun e W' => e = .returned (.bool false) ∧ LiveTo w W W' b F L q := by
  refine (sdel_none b F L q qs k W h.s hk he).mono ?_
  rintro e W' ⟨he, hb⟩
  exact ⟨he, h.same hb⟩
set_option maxRecDepth 100000 in
set_option maxHeartbeats 1000000 in
theorem cput_set {w W : World} {b : Nat} {F : List Nat} {L : SL} {q : Nat} {qs : List Value} (h : SNew w W b F L q qs) (k v : ByteArray) (hk : k.size ≤ maxLen) (hv : v.size ≤ maxLen) (hk0 : k ≠ ⟨#[]⟩) (hv0 : v ≠ ⟨#[]⟩) (hN : L.length < 128) (hq : q < 1000000) :
    Calls Try.prog 119 #[.pointer (some ⟨b, 0, none⟩), .string k, .string v] W fun e W' => e = .returned (.tuple #[]) ∧ LiveTo w W W' b F (setL L k v) (q + 1) := by
  have HS := Lib.hid (h.sets k v hk hv hk0 hN hq)
  have hv1 := ba_nil hv0
  clear h hk hv hk0 hv0 hN hq
  go_enter Try.func119, Try.ntmps119
  go_wp2_with (go_at_call 64; refine HS.out.mono ?_; rintro e w1 ⟨rfl, h1⟩; have H1 := Lib.hid h1; clear h1)
  go_end0
  exact ⟨rfl, H1.out⟩
set_option maxRecDepth 100000 in
set_option maxHeartbeats 1000000 in
theorem cput_none {w W : World} {b : Nat} {F : List Nat} {L : SL} {q : Nat} {qs : List Value} (h : SNew w W b F L q qs) (k : ByteArray) (hk : k.size ≤ maxLen) (he : sget L k = none) :
    Calls Try.prog 119 #[.pointer (some ⟨b, 0, none⟩), .string k, .string ⟨#[]⟩] W fun e W' => e = .returned (.tuple #[]) ∧ LiveTo w W W' b F L q := by
  have HS := Lib.hid (h.del_none k hk he)
  clear h hk he
  go_enter Try.func119, Try.ntmps119
  go_wp2_with (go_at_call 76; refine HS.out.mono ?_; rintro e w1 ⟨rfl, h1⟩; have H1 := Lib.hid h1; clear h1)
  refine bodyPost_ret (v := .tuple #[]) (by simp [results, Try.results119, go_sem]) rfl ⟨rfl, H1.out⟩
theorem numStr_sizeA (x : Int) : (numStr x).size = 8 := by unfold numStr; rw [strOfNums_size]; simp [ints, kb8]
theorem numStr_ne (x : Int) : numStr x ≠ ⟨#[]⟩ := by
  intro e
  have := numStr_sizeA x
  rw [e] at this
  exact absurd this (by decide)
theorem chunk_numStr {n : Nat} (h : n < 2 ^ 63) : chunk (numStr n) 0 = n := by
  have e : (numStr n).data.toList = u8l (kb8 n) := by
    unfold numStr
    rw [Int.max_eq_left (by omega), Int.toNat_natCast, ← Lib.toList_data]
    exact strOfNums_u8l _
  unfold chunk
  rw [e, Nat.mul_zero, List.drop_zero]
  have := numl_kb8 (a := n) [] (by omega)
  rwa [List.append_nil] at this
set_option maxRecDepth 100000 in
set_option maxHeartbeats 1000000 in
theorem csetInt_set {w W : World} {b : Nat} {F : List Nat} {L : SL} {q : Nat} {qs : List Value} (h : SNew w W b F L q qs) (k : ByteArray) (n : Int) (hk : k.size ≤ maxLen) (hk0 : k ≠ ⟨#[]⟩) (h1 : 1 ≤ n) (h2 : n < 2 ^ 63) (hN : L.length < 128) (hq : q < 1000000) :
    Calls Try.prog 82 #[.pointer (some ⟨b, 0, none⟩), .string k, .int .i64 n] W fun e W' => e = .returned (.tuple #[]) ∧ LiveTo w W W' b F (setL L k (numStr n)) (q + 1) := by
  have HN := Lib.hid (knum_walk n W h2)
  have HS := Lib.hid (fun (W1 : World) (hb : Below W.heap.size W W1) => (cput_set (h.below hb) k (numStr n) hk (by rw [numStr_sizeA]; decide) hk0 (numStr_ne n) hN hq).mono fun e W' hp => (⟨hp.1, hp.2.pre hb⟩ : e = .returned (.tuple #[]) ∧ LiveTo w W W' b F (setL L k (numStr n)) (q + 1)))
  have p1 : ¬ n < 1 := by omega
  clear h hk hk0 h1 h2 hN hq
  go_enter Try.func82, Try.ntmps82
  go_wp2_with (first
    | (go_at_call 119; refine (HS.out w1 HB1.out).mono ?_; rintro e w2 ⟨rfl, h1⟩; have H1 := Lib.hid h1; clear h1)
    | (go_at_call 66; refine HN.out.mono ?_; rintro e w1 ⟨rfl, hb1⟩; have HB1 := Lib.hid hb1; clear hb1))
  go_end0
  exact ⟨rfl, H1.out⟩
set_option maxRecDepth 100000 in
set_option maxHeartbeats 1000000 in
theorem csetInt_none {w W : World} {b : Nat} {F : List Nat} {L : SL} {q : Nat} {qs : List Value} (h : SNew w W b F L q qs) (k : ByteArray) (n : Int) (hk : k.size ≤ maxLen) (he : sget L k = none) (h1 : n < 1) :
    Calls Try.prog 82 #[.pointer (some ⟨b, 0, none⟩), .string k, .int .i64 n] W fun e W' => e = .returned (.tuple #[]) ∧ LiveTo w W W' b F L q := by
  have HS := Lib.hid (cput_none h k hk he)
  clear h hk he
  go_enter Try.func82, Try.ntmps82
  go_wp2_with (go_at_call 119; refine HS.out.mono ?_; rintro e w2 ⟨rfl, h1⟩; have H1 := Lib.hid h1; clear h1)
  refine bodyPost_ret (v := .tuple #[]) (by simp [results, Try.results82, go_sem]) rfl ⟨rfl, H1.out⟩
theorem nums_one (n : Nat) (w : World) (hn : n < 2 ^ 63) : Calls Try.prog 113 #[.string (numStr n)] w fun e w' => e = .returned (.tuple #[.slice (some ⟨w.heap.size, 0, none⟩) 1 1, .bool true]) ∧ w'.cell? ⟨w.heap.size, 0, none⟩ = some (.int .i64 (n : Nat)) ∧ w.heap.size < w'.heap.size ∧ Below w.heap.size w w' := by
  refine (nums_walk (numStr n) 1 w (by rw [numStr_sizeA]) (by omega)).mono ?_
  rintro e w' ⟨⟨_, he, hr⟩ | ⟨⟨i, hi, hne⟩, _⟩, hb⟩
  · refine ⟨he, ?_, (hr.lt w.heap.size rfl).2, hb⟩
    have := hr.cellAt 0 (by omega)
    simpa [i64n, chunk_numStr hn] using this
  · obtain rfl : i = 0 := by omega
    rw [chunk_numStr hn] at hne
    exact absurd hn hne
set_option maxRecDepth 100000 in
set_option maxHeartbeats 1000000 in
theorem numbers_one {w W : World} {b : Nat} {F : List Nat} {L : SL} {q : Nat} {qs : List Value} (h : SNew w W b F L q qs) (k : ByteArray) (n : Nat) (hk : k.size ≤ maxLen) (he : sget L k = some (numStr n)) (hn : n < 2 ^ 63) :
    Calls Try.prog 111 #[.func (Fn.func 47) #[.pointer (some ⟨b, 0, none⟩)] #[], .string k] W fun e W' => (∃ g, e = .returned (.slice (some ⟨g, 0, none⟩) 1 1) ∧ W'.cell? ⟨g, 0, none⟩ = some (.int .i64 (n : Nat)) ∧ g < W'.heap.size) ∧ Below W.heap.size W W' := by
  have HG := Lib.hid (h.get_some k (numStr n) hk he)
  have HN := Lib.hid (fun w => nums_one n w hn)
  clear h hk he hn
  go_enter Try.func111, Try.ntmps111
  go_wp2_with (first
    | (go_at_call 113; refine (HN.out w1).mono ?_; rintro e w2 ⟨rfl, hc, hl, hb⟩; have HC := Lib.hid hc; have HL := Lib.hid hl; have HB2 := Lib.hid (HB1.out.trans (hb.mono HB1.out.size)); clear hc hl hb)
    | (go_at_call 47; refine HG.out.mono ?_; rintro e w1 ⟨rfl, _, hb1⟩; have HB1 := Lib.hid hb1; clear hb1))
  go_ret
  exact ⟨⟨_, rfl, HC.out, HL.out⟩, HB2.out⟩
set_option maxRecDepth 100000 in
set_option maxHeartbeats 1000000 in
theorem numbers_none {w W : World} {b : Nat} {F : List Nat} {L : SL} {q : Nat} {qs : List Value} (h : SNew w W b F L q qs) (k : ByteArray) (hk : k.size ≤ maxLen) (he : sget L k = none) :
    Calls Try.prog 111 #[.func (Fn.func 47) #[.pointer (some ⟨b, 0, none⟩)] #[], .string k] W fun e W' => (∃ g, e = .returned (.slice (some ⟨g, 0, none⟩) 0 0)) ∧ Below W.heap.size W W' := by
  have HG := Lib.hid (h.get_none k hk he)
  have HN := Lib.hid nums_none
  clear h hk he
  go_enter Try.func111, Try.ntmps111
  go_wp2_with (first
    | (go_at_call 113; refine (HN.out w1).mono ?_; rintro e w2 ⟨rfl, hb⟩; have HB2 := Lib.hid (HB1.out.trans (hb.mono HB1.out.size)); clear hb)
    | (go_at_call 47; refine HG.out.mono ?_; rintro e w1 ⟨rfl, _, hb1⟩; have HB1 := Lib.hid hb1; clear hb1))
  go_ret
  exact ⟨⟨_, rfl⟩, HB2.out⟩
set_option maxRecDepth 100000 in
set_option maxHeartbeats 1000000 in
theorem cint_some {w W : World} {b : Nat} {F : List Nat} {L : SL} {q : Nat} {qs : List Value} (h : SNew w W b F L q qs) (k : ByteArray) (n : Nat) (hk : k.size ≤ maxLen) (he : sget L k = some (numStr n)) (hn : n < 2 ^ 63) :
    Calls Try.prog 61 #[.pointer (some ⟨b, 0, none⟩), .string k] W fun e W' => e = .returned (.int .i64 (n : Nat)) ∧ Below W.heap.size W W' := by
  have HN := Lib.hid (numbers_one h k n hk he hn)
  clear h hk he hn
  go_enter Try.func61, Try.ntmps61
  go_wp2_with (go_at_call 111; refine HN.out.mono ?_; rintro e w1 ⟨⟨g, rfl, hc, hl⟩, hb1⟩; have HB1 := Lib.hid hb1; clear hb1)
  go_ret
  exact ⟨rfl, HB1.out⟩
set_option maxRecDepth 100000 in
set_option maxHeartbeats 1000000 in
theorem cint_none {w W : World} {b : Nat} {F : List Nat} {L : SL} {q : Nat} {qs : List Value} (h : SNew w W b F L q qs) (k : ByteArray) (hk : k.size ≤ maxLen) (he : sget L k = none) :
    Calls Try.prog 61 #[.pointer (some ⟨b, 0, none⟩), .string k] W fun e W' => e = .returned (.int .i64 0) ∧ Below W.heap.size W W' := by
  have HN := Lib.hid (numbers_none h k hk he)
  clear h hk he
  go_enter Try.func61, Try.ntmps61
  go_wp2_with (go_at_call 111; refine HN.out.mono ?_; rintro e w1 ⟨⟨g, rfl⟩, hb1⟩; have HB1 := Lib.hid hb1; clear hb1)
  go_ret
  exact ⟨rfl, HB1.out⟩
set_option maxRecDepth 100000 in
set_option maxHeartbeats 1000000 in
theorem cint_dead (p : Value) (k : ByteArray) (w : World) (h : SDead w p) : Calls Try.prog 61 #[p, .string k] w fun e w' => e = .returned (.int .i64 0) ∧ Below w.heap.size w w' := by
  have HN := Lib.hid (numbers_dead p k w h)
  clear h
  go_enter Try.func61, Try.ntmps61
  go_wp2_with (go_at_call 111; refine HN.out.mono ?_; rintro e w1 ⟨rfl, hb1⟩; have HB1 := Lib.hid hb1; clear hb1)
  go_ret
  exact ⟨rfl, HB1.out⟩
end Go.Proofs.Ytedkhpnlhkjjgaa

namespace Go.Proofs.Ytedkhpnlhkjjgaa
open Go.RowKit Go.Maps Go.Sort

set_option maxRecDepth 100000 in
set_option maxHeartbeats 4000000 in
theorem drop_some (b bm : Nat) (vb vk vq : Value) (L : SL) (q : Nat) (qs : List Value) (k : ByteArray) (w : World) (h : StM w b bm vb vk vq L q qs) (hk : k.size ≤ maxLen) (hN : L.length ≤ 1000000) (hin : (sget L k).isSome = true) (h2 : 2 ≤ L.length) :
    Calls Try.prog 121 #[.pointer (some ⟨b, 0, none⟩), .string k] w (PutPost b bm vb vk vq L (sdel L k) q qs w) := by
  have hL0 : L ≠ [] := fun e => by rw [e] at h2; simp at h2
  obtain ⟨ba, bc, rfl⟩ : ∃ ba bc, vb = .slice (some ⟨ba, 0, none⟩) 1 bc := by
    have := h.kb.2
    rw [if_neg hL0] at this
    rcases this with ⟨_, h0⟩ | ⟨g, cap, cur, hv, _⟩
    · cases h0
    · exact ⟨g, cap, hv⟩
  obtain ⟨bk, kc, rfl⟩ : ∃ bk kc, vk = .slice (some ⟨bk, 0, none⟩) L.length kc := by
    rcases (h.kk hL0).2 with ⟨_, h0⟩ | ⟨g, cap, cur, hv, _⟩
    · rw [h0] at h2; omega
    · exact ⟨g, cap, hv⟩
  have hkl : (skeys L).length = L.length := by unfold skeys; simp
  obtain ⟨p1, p2, p3⟩ := sdel_parts k L h.so hin
  obtain ⟨w1, hdel, hm1, t1⟩ := h.m.del h.so k hk 0
  have hnd := h.nd
  unfold fpr at hnd
  rw [if_neg hL0] at hnd
  simp only [Value.ownBlock, Option.toList_some, List.cons_append, List.nil_append, List.nodup_cons, List.mem_cons, not_or] at hnd
  obtain ⟨⟨n1, n2, n3, n4⟩, ⟨n5, n6, n7⟩, ⟨n8, n9⟩, n10, n11⟩ := hnd
  have lb := hp_lt h.r
  have la : ba < w.heap.size := ownsRow_blk h.kb ba rfl
  have lk : bk < w.heap.size := ownsRow_blk (h.kk hL0) bk rfl
  have hr1 : w1.heap[b]? = some (.cells #[.map (some bm), .slice (some ⟨ba, 0, none⟩) 1 bc, vq] 107 (0, 0)) := (t1.block b lb (by simpa using n1)).trans h.r
  obtain ⟨cur, hc, c1, c2, c3, c4, c5⟩ := ownsRow_open (by have := h.kb; rw [if_neg hL0, if_neg hL0] at this; exact this)
  have hc1 : w1.heap[ba]? = some (.cells cur 193 (0, 0)) := (t1.block ba la (by simpa using fun e => n5 e.symm)).trans hc
  have ha1 : w1.cell? ⟨ba, 0, none⟩ = some (.slice (some ⟨bk, 0, none⟩) L.length kc) := by
    rw [hp_cell hc1]
    have : cur.toList[0]? = some (.slice (some ⟨bk, 0, none⟩) L.length kc) := by
      have e := congrArg (fun l => l[0]?) c4
      simpa using e
    simpa using this
  have kk1 : w1.ownsRow 0 9 1 (.slice (some ⟨bk, 0, none⟩) L.length kc) L.length ((skeys L).map Value.string) := ownsRow_same (h.kk hL0) fun g hg => by cases hg; exact t1.block bk lk (by simpa using fun e => n6 e.symm)
  have hkc : ∀ i (hi : i < (skeys L).length), w1.cell? ⟨bk, i, none⟩ = some (.string (skeys L)[i]) := fun i hi => by
    rw [kk1.cellAt i (by omega), List.getElem?_map, List.getElem?_eq_getElem hi]; rfl
  have HP := Lib.hid (place_some b bm ba bc bk kc (skeys L) vq k w1 (by omega) (by omega) h.so hr1 (by rw [hkl]; exact ha1) hkc)
  rw [hkl, if_neg (by omega)] at HP
  have c0 := (hp_cell (i := 0) h.r).trans rfl
  obtain ⟨j, hj⟩ : ∃ j, j = klo (skeys L) k := ⟨_, rfl⟩
  obtain ⟨n, hn⟩ : ∃ n, n = L.length := ⟨_, rfl⟩
  have hjn : j < n := by rw [hj, hn]; exact p1
  have HR1 := Lib.hid hr1
  have HC1 := Lib.hid hc1
  have HA1 := Lib.hid ha1
  have HK1 := Lib.hid kk1
  have HX := Lib.hid (And.intro lb (And.intro n2 (And.intro n3 (And.intro n8 (And.intro hj hn)))))
  have HN := Lib.hid hN
  have HKL := Lib.hid hkl
  have hfin := Lib.hid (fun (w2 w3 : World) (b2 : Below w1.heap.size w1 w2) (t3 : Touch [bk] w2 w3) (hown : w3.ownsRow 0 9 1 (.slice (some ⟨bk, 0, none⟩) (L.length - 1) kc) (L.length - 1) (((skeys L).take (klo (skeys L) k) ++ (skeys L).drop (klo (skeys L) k + 1)).map Value.string)) => drop_done (k := k) h hin h2 hm1 t1 b2 t3 hown)
  have hjI : (j : Int) < (n : Int) := by omega
  have hnI : (n : Int) ≤ 1000000 := by omega
  have hw1 : IntKind.i64.wrap ((j : Int) + 1) = (j : Int) + 1 := IntWalk.i64_in _ (by omega)
  have hn2 : ¬ (n : Int) - 1 = 0 := by omega
  rw [← hj] at HP hfin
  rw [← hn] at HA1 HK1 hfin ⊢
  have HJN := Lib.hid hjn
  clear h hk hN hin h2 hL0 hkl p1 p2 p3 hm1 t1 n1 n2 n3 n4 n5 n6 n7 n8 n9 n10 n11 lb la lk hr1 hc c1 c2 c3 c4 c5 hc1 ha1 kk1 hkc hj hn
  go_enter Try.func121, Try.ntmps121
  go_upto_region 2 with (go_at_call 145; refine HP.out.mono ?_; rintro e w2 ⟨rfl, hb2⟩)
  obtain ⟨lb, n2, n3, n8, hj, hn⟩ := HX.out
  have r2 := (hb2.block b (hp_lt HR1.out)).trans HR1.out
  have rc2 := (hb2.block ba (hp_lt HC1.out)).trans HC1.out
  have c1 := (hp_cell (i := 1) r2).trans rfl
  have c2 : w2.cell? ⟨ba, 0, none⟩ = some (.slice (some ⟨bk, 0, none⟩) n kc) := (hb2.cell (p := ⟨ba, 0, none⟩) (hp_lt HC1.out)).trans HA1.out
  have k2 : w2.drew.ownsRow 0 9 1 (.slice (some ⟨bk, 0, none⟩) (skeys L).length kc) (skeys L).length ((skeys L).map Value.string) := by
    rw [HKL.out, ← hn]
    exact ownsRow_same HK1.out fun g hg => by cases hg; exact hb2.block bk (ownsRow_blk HK1.out bk rfl)
  have hd := del_own bk kc j (skeys L) w2.drew k2 (by rw [HKL.out, ← hn]; exact HJN.out)
  rw [HKL.out, ← hn, show ((j + 1 : Nat) : Int) = (j : Int) + 1 by omega] at hd
  have HD := Lib.hid hd
  have hbk : ∀ w3 : World, Touch [bk] w2.drew w3 → w3.heap[b]? = some (.cells #[.map (some bm), .slice (some ⟨ba, 0, none⟩) 1 bc, vq] 107 (0, 0)) ∧ w3.heap[ba]? = some (.cells cur 193 (0, 0)) := fun w3 ht => ⟨(ht.block b (hp_lt r2) (by simpa using n3)).trans r2, (ht.block ba (hp_lt rc2) (by simpa using n8)).trans rc2⟩
  have hca : ∀ w3 : World, Touch [bk] w2.drew w3 → w3.cell? ⟨ba, 0, none⟩ = some (.slice (some ⟨bk, 0, none⟩) n kc) := fun w3 ht => by
    rw [hp_cell (hbk w3 ht).2, ← hp_cell rc2]; exact c2
  have HBK := Lib.hid hbk
  have HCA := Lib.hid hca
  have HFI := Lib.hid (fun (w3 : World) (ht : Touch [bk] w2.drew w3) => hfin.out w2 w3 hb2 ⟨ht.os, ht.tape, ht.output, ht.size, ht.block⟩)
  have g2 := hp_free (i := 0) rc2
  have HNE := Lib.hid n2
  clear hd hbk hca k2 r2 rc2 hfin HP HR1 HC1 HA1 HK1 HX hb2 hj hn lb n2 n3 n8 hdel c0
  go_region_with (go_at_call 146; refine HD.out.mono ?_; rintro e w3 ⟨rfl, hown3, ht3⟩; have d1 := (hp_cell (i := 1) (HBK.out w3 ht3).1).trans rfl; have d2 := HCA.out w3 ht3; have f2 := hp_free (i := 0) (HBK.out w3 ht3).2; have d3 := Lib.hid (HFI.out w3 ht3 hown3); have e1 : ¬ b = ba := HNE.out)
  all_goals
    go_wp2
    go_end0
    exact d3.out
end Go.Proofs.Ytedkhpnlhkjjgaa
