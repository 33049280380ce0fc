/- A live store, by its entries alone: Set, Delete of a key that is not there, Get; cell.put, SetInt, Int; keys.Table. -/
import Derived.Test.YtedkhpnlhkjjgaaT9
import Derived.Test.YtedkhpnlhkjjgaaK4
import Derived.Test.YtedkhpnlhkjjgaaKM2
namespace Go.Proofs.Ytedkhpnlhkjjgaa
open Go.RowKit Go.Maps

/-- behind a step of W to W' the store b has the entries L, and at most q changes -/
def LiveTo (w W W' : World) (b : Nat) (F : List Nat) (L : SL) (q : Nat) : Prop :=
  ∃ F' q' qs', SNew w W' b F' L q' qs' ∧ q' ≤ q ∧ Touch F W W' ∧ ∀ k ∈ F', k ∈ F ∨ W.heap.size ≤ k
theorem LiveTo.pre {w W W1 W' : World} {b : Nat} {F : List Nat} {L : SL} {q : Nat} (h : LiveTo w W1 W' b F L q) (h1 : Below W.heap.size W W1) : LiveTo w W W' b F L q := by
  obtain ⟨F', q', qs', hs, hq, ht, hf⟩ := h
  refine ⟨F', q', qs', hs, hq, (Touch.of_below h1).trans (fun _ hk => .inl hk) ht, fun k hk => ?_⟩
  rcases hf k hk with h | h
  · exact .inl h
  · right; have := h1.size; omega
theorem LiveTo.post {w W W1 W' : World} {b : Nat} {F : List Nat} {L : SL} {q : Nat} (h : LiveTo w W W1 b F L q) (h1 : Below W1.heap.size W1 W') : LiveTo w W W' b F L q := by
  obtain ⟨F', q', qs', hs, hq, ht, hf⟩ := h
  exact ⟨F', q', qs', hs.below h1, hq, ht.trans (F' := []) (fun _ hk => by cases hk) (Touch.of_below h1), hf⟩
theorem SNew.same {w W W' : World} {b : Nat} {F : List Nat} {L : SL} {q : Nat} {qs : List Value} (h : SNew w W b F L q qs) (hb : Below W.heap.size W W') : LiveTo w W W' b F L q :=
  ⟨F, q, qs, h.below hb, Nat.le_refl _, Touch.of_below hb, fun _ hk => .inl hk⟩
theorem SNew.sets {w W : World} {b : Nat} {F : List Nat} {L : SL} {q : Nat} {qs : List Value} (h : SNew w W b F L q qs) (k v : ByteArray) (hk : k.size ≤ maxLen) (hv : v.size ≤ maxLen) (hk0 : k ≠ ⟨#[]⟩) (hN : L.length < 128) (hq : q < 1000000) :
    Calls Try.prog 64 #[.pointer (some ⟨b, 0, none⟩), .string k, .string v] W fun e W' => e = .returned (.int .i64 0) ∧ LiveTo w W W' b F (setL L k v) (q + 1) := by
  by_cases hs : sget L k = some v
  · rw [show setL L k v = L by unfold setL; rw [if_pos hs]]
    refine (_root_.Go.Proofs.Ytedkhpnlhkjjgaa.set_same b F L q qs k v W h.s hk hk0 hs).mono ?_
    rintro e W' ⟨he, F', hs, ht, hf⟩
    exact ⟨he, F', q, qs, h.set hs ht hf, by omega, ht, hf⟩
  · rw [show setL L k v = sset L k v by unfold setL; rw [if_neg hs]]
    obtain ⟨bm, vb, vk, vq, hF, hM⟩ := h.s
    refine (_root_.Go.Proofs.Ytedkhpnlhkjjgaa.set_new b bm vb vk vq L q qs k v W hM hk hv hk0 hN hq hs).mono ?_
    rintro e W' ⟨he, F', hs, ht, hf⟩
    rw [← hF] at ht hf
    exact ⟨he, F', _, _, h.set hs ht hf, Nat.le_refl _, ht, hf⟩
set_option maxRecDepth 100000 in
set_option maxHeartbeats 1000000 in
theorem sdel_none (b : Nat) (F : List Nat) (L : SL) (q : Nat) (qs : List Value) (k : ByteArray) (w : World) (h : StP w b F L q qs) (hk : k.size ≤ maxLen) (he : sget L k = none) :
    Calls Try.prog 76 #[.pointer (some ⟨b, 0, none⟩), .string k] w fun e w' => e = .returned (.bool false) ∧ Below w.heap.size w w' := by
  have HM := Lib.hid (made_live b F L q qs w h)
  obtain ⟨bm, vb, vk, vq, rfl, hS⟩ := h
  have hl := hS.m.look k hk
  rw [he] at hl
  replace hl : (Instr.lookup 103 (.map (some bm)) (.string k) true).run Try.prog w = .ok (.tuple #[.agg #[.string ⟨#[]⟩], .bool false]) w := hl
  have c0 := (hp_cell (i := 0) hS.r).trans rfl
  clear hS hk he
  go_enter Try.func76, Try.ntmps76
  go_wp2_with (go_at_call 27; refine HM.out.mono ?_; rintro e w1 ⟨rfl, rfl⟩)
  go_ret
  exact ⟨rfl, (Below.refl _ _).alloc (Nat.le_refl _) _⟩
theorem SNew.del_none {w W : World} {b : Nat} {F : List Nat} {L : SL} {q : Nat} {qs : List Value} (h : SNew w W b F L q qs) (k : ByteArray) (hk : k.size ≤ maxLen) (he : sget L k = none) :
    Calls Try.prog 76 #[.pointer (some ⟨b, 0, none⟩), .string k] W fun e W' => e = .returned (.bool false) ∧ LiveTo w W W' b F L q := by
  refine (sdel_none b F L q qs k W h.s hk he).mono ?_
  rintro e W' ⟨he, hb⟩
  exact ⟨he, h.same hb⟩
set_option maxRecDepth 100000 in
set_option maxHeartbeats 1000000 in
theorem cput_set {w W : World} {b : Nat} {F : List Nat} {L : SL} {q : Nat} {qs : List Value} (h : SNew w W b F L q qs) (k v : ByteArray) (hk : k.size ≤ maxLen) (hv : v.size ≤ maxLen) (hk0 : k ≠ ⟨#[]⟩) (hv0 : v ≠ ⟨#[]⟩) (hN : L.length < 128) (hq : q < 1000000) :
    Calls Try.prog 119 #[.pointer (some ⟨b, 0, none⟩), .string k, .string v] W fun e W' => e = .returned (.tuple #[]) ∧ LiveTo w W W' b F (setL L k v) (q + 1) := by
  have HS := Lib.hid (h.sets k v hk hv hk0 hN hq)
  have hv1 := ba_nil hv0
  clear h hk hv hk0 hv0 hN hq
  go_enter Try.func119, Try.ntmps119
  go_wp2_with (go_at_call 64; refine HS.out.mono ?_; rintro e w1 ⟨rfl, h1⟩; have H1 := Lib.hid h1; clear h1)
  go_end0
  exact ⟨rfl, H1.out⟩
set_option maxRecDepth 100000 in
set_option maxHeartbeats 1000000 in
theorem cput_none {w W : World} {b : Nat} {F : List Nat} {L : SL} {q : Nat} {qs : List Value} (h : SNew w W b F L q qs) (k : ByteArray) (hk : k.size ≤ maxLen) (he : sget L k = none) :
    Calls Try.prog 119 #[.pointer (some ⟨b, 0, none⟩), .string k, .string ⟨#[]⟩] W fun e W' => e = .returned (.tuple #[]) ∧ LiveTo w W W' b F L q := by
  have HS := Lib.hid (h.del_none k hk he)
  clear h hk he
  go_enter Try.func119, Try.ntmps119
  go_wp2_with (go_at_call 76; refine HS.out.mono ?_; rintro e w1 ⟨rfl, h1⟩; have H1 := Lib.hid h1; clear h1)
  refine bodyPost_ret (v := .tuple #[]) (by simp [results, Try.results119, go_sem]) rfl ⟨rfl, H1.out⟩
theorem numStr_sizeA (x : Int) : (numStr x).size = 8 := by unfold numStr; rw [strOfNums_size]; simp [ints, kb8]
theorem numStr_ne (x : Int) : numStr x ≠ ⟨#[]⟩ := by
  intro e
  have := numStr_sizeA x
  rw [e] at this
  exact absurd this (by decide)
theorem chunk_numStr {n : Nat} (h : n < 2 ^ 63) : chunk (numStr n) 0 = n := by
  have e : (numStr n).data.toList = u8l (kb8 n) := by
    unfold numStr
    rw [Int.max_eq_left (by omega), Int.toNat_natCast, ← Lib.toList_data]
    exact strOfNums_u8l _
  unfold chunk
  rw [e, Nat.mul_zero, List.drop_zero]
  have := numl_kb8 (a := n) [] (by omega)
  rwa [List.append_nil] at this
set_option maxRecDepth 100000 in
set_option maxHeartbeats 1000000 in
theorem csetInt_set {w W : World} {b : Nat} {F : List Nat} {L : SL} {q : Nat} {qs : List Value} (h : SNew w W b F L q qs) (k : ByteArray) (n : Int) (hk : k.size ≤ maxLen) (hk0 : k ≠ ⟨#[]⟩) (h1 : 1 ≤ n) (h2 : n < 2 ^ 63) (hN : L.length < 128) (hq : q < 1000000) :
    Calls Try.prog 82 #[.pointer (some ⟨b, 0, none⟩), .string k, .int .i64 n] W fun e W' => e = .returned (.tuple #[]) ∧ LiveTo w W W' b F (setL L k (numStr n)) (q + 1) := by
  have HN := Lib.hid (knum_walk n W h2)
  have HS := Lib.hid (fun (W1 : World) (hb : Below W.heap.size W W1) => (cput_set (h.below hb) k (numStr n) hk (by rw [numStr_sizeA]; decide) hk0 (numStr_ne n) hN hq).mono fun e W' hp => (⟨hp.1, hp.2.pre hb⟩ : e = .returned (.tuple #[]) ∧ LiveTo w W W' b F (setL L k (numStr n)) (q + 1)))
  have p1 : ¬ n < 1 := by omega
  clear h hk hk0 h1 h2 hN hq
  go_enter Try.func82, Try.ntmps82
  go_wp2_with (first
    | (go_at_call 119; refine (HS.out w1 HB1.out).mono ?_; rintro e w2 ⟨rfl, h1⟩; have H1 := Lib.hid h1; clear h1)
    | (go_at_call 66; refine HN.out.mono ?_; rintro e w1 ⟨rfl, hb1⟩; have HB1 := Lib.hid hb1; clear hb1))
  go_end0
  exact ⟨rfl, H1.out⟩
set_option maxRecDepth 100000 in
set_option maxHeartbeats 1000000 in
theorem csetInt_none {w W : World} {b : Nat} {F : List Nat} {L : SL} {q : Nat} {qs : List Value} (h : SNew w W b F L q qs) (k : ByteArray) (n : Int) (hk : k.size ≤ maxLen) (he : sget L k = none) (h1 : n < 1) :
    Calls Try.prog 82 #[.pointer (some ⟨b, 0, none⟩), .string k, .int .i64 n] W fun e W' => e = .returned (.tuple #[]) ∧ LiveTo w W W' b F L q := by
  have HS := Lib.hid (cput_none h k hk he)
  clear h hk he
  go_enter Try.func82, Try.ntmps82
  go_wp2_with (go_at_call 119; refine HS.out.mono ?_; rintro e w2 ⟨rfl, h1⟩; have H1 := Lib.hid h1; clear h1)
  refine bodyPost_ret (v := .tuple #[]) (by simp [results, Try.results82, go_sem]) rfl ⟨rfl, H1.out⟩
theorem nums_one (n : Nat) (w : World) (hn : n < 2 ^ 63) : Calls Try.prog 113 #[.string (numStr n)] w fun e w' => e = .returned (.tuple #[.slice (some ⟨w.heap.size, 0, none⟩) 1 1, .bool true]) ∧ w'.cell? ⟨w.heap.size, 0, none⟩ = some (.int .i64 (n : Nat)) ∧ w.heap.size < w'.heap.size ∧ Below w.heap.size w w' := by
  refine (nums_walk (numStr n) 1 w (by rw [numStr_sizeA]) (by omega)).mono ?_
  rintro e w' ⟨⟨_, he, hr⟩ | ⟨⟨i, hi, hne⟩, _⟩, hb⟩
  · refine ⟨he, ?_, (hr.lt w.heap.size rfl).2, hb⟩
    have := hr.cellAt 0 (by omega)
    simpa [i64n, chunk_numStr hn] using this
  · obtain rfl : i = 0 := by omega
    rw [chunk_numStr hn] at hne
    exact absurd hn hne
set_option maxRecDepth 100000 in
set_option maxHeartbeats 1000000 in
theorem numbers_one {w W : World} {b : Nat} {F : List Nat} {L : SL} {q : Nat} {qs : List Value} (h : SNew w W b F L q qs) (k : ByteArray) (n : Nat) (hk : k.size ≤ maxLen) (he : sget L k = some (numStr n)) (hn : n < 2 ^ 63) :
    Calls Try.prog 111 #[.func (Fn.func 47) #[.pointer (some ⟨b, 0, none⟩)] #[], .string k] W fun e W' => (∃ g, e = .returned (.slice (some ⟨g, 0, none⟩) 1 1) ∧ W'.cell? ⟨g, 0, none⟩ = some (.int .i64 (n : Nat)) ∧ g < W'.heap.size) ∧ Below W.heap.size W W' := by
  have HG := Lib.hid (h.get_some k (numStr n) hk he)
  have HN := Lib.hid (fun w => nums_one n w hn)
  clear h hk he hn
  go_enter Try.func111, Try.ntmps111
  go_wp2_with (first
    | (go_at_call 113; refine (HN.out w1).mono ?_; rintro e w2 ⟨rfl, hc, hl, hb⟩; have HC := Lib.hid hc; have HL := Lib.hid hl; have HB2 := Lib.hid (HB1.out.trans (hb.mono HB1.out.size)); clear hc hl hb)
    | (go_at_call 47; refine HG.out.mono ?_; rintro e w1 ⟨rfl, _, hb1⟩; have HB1 := Lib.hid hb1; clear hb1))
  go_ret
  exact ⟨⟨_, rfl, HC.out, HL.out⟩, HB2.out⟩
set_option maxRecDepth 100000 in
set_option maxHeartbeats 1000000 in
theorem numbers_none {w W : World} {b : Nat} {F : List Nat} {L : SL} {q : Nat} {qs : List Value} (h : SNew w W b F L q qs) (k : ByteArray) (hk : k.size ≤ maxLen) (he : sget L k = none) :
    Calls Try.prog 111 #[.func (Fn.func 47) #[.pointer (some ⟨b, 0, none⟩)] #[], .string k] W fun e W' => (∃ g, e = .returned (.slice (some ⟨g, 0, none⟩) 0 0)) ∧ Below W.heap.size W W' := by
  have HG := Lib.hid (h.get_none k hk he)
  have HN := Lib.hid nums_none
  clear h hk he
  go_enter Try.func111, Try.ntmps111
  go_wp2_with (first
    | (go_at_call 113; refine (HN.out w1).mono ?_; rintro e w2 ⟨rfl, hb⟩; have HB2 := Lib.hid (HB1.out.trans (hb.mono HB1.out.size)); clear hb)
    | (go_at_call 47; refine HG.out.mono ?_; rintro e w1 ⟨rfl, _, hb1⟩; have HB1 := Lib.hid hb1; clear hb1))
  go_ret
  exact ⟨⟨_, rfl⟩, HB2.out⟩
set_option maxRecDepth 100000 in
set_option maxHeartbeats 1000000 in
theorem cint_some {w W : World} {b : Nat} {F : List Nat} {L : SL} {q : Nat} {qs : List Value} (h : SNew w W b F L q qs) (k : ByteArray) (n : Nat) (hk : k.size ≤ maxLen) (he : sget L k = some (numStr n)) (hn : n < 2 ^ 63) :
    Calls Try.prog 61 #[.pointer (some ⟨b, 0, none⟩), .string k] W fun e W' => e = .returned (.int .i64 (n : Nat)) ∧ Below W.heap.size W W' := by
  have HN := Lib.hid (numbers_one h k n hk he hn)
  clear h hk he hn
  go_enter Try.func61, Try.ntmps61
  go_wp2_with (go_at_call 111; refine HN.out.mono ?_; rintro e w1 ⟨⟨g, rfl, hc, hl⟩, hb1⟩; have HB1 := Lib.hid hb1; clear hb1)
  go_ret
  exact ⟨rfl, HB1.out⟩
set_option maxRecDepth 100000 in
set_option maxHeartbeats 1000000 in
theorem cint_none {w W : World} {b : Nat} {F : List Nat} {L : SL} {q : Nat} {qs : List Value} (h : SNew w W b F L q qs) (k : ByteArray) (hk : k.size ≤ maxLen) (he : sget L k = none) :
    Calls Try.prog 61 #[.pointer (some ⟨b, 0, none⟩), .string k] W fun e W' => e = .returned (.int .i64 0) ∧ Below W.heap.size W W' := by
  have HN := Lib.hid (numbers_none h k hk he)
  clear h hk he
  go_enter Try.func61, Try.ntmps61
  go_wp2_with (go_at_call 111; refine HN.out.mono ?_; rintro e w1 ⟨⟨g, rfl⟩, hb1⟩; have HB1 := Lib.hid hb1; clear hb1)
  go_ret
  exact ⟨rfl, HB1.out⟩
set_option maxRecDepth 100000 in
set_option maxHeartbeats 1000000 in
theorem cint_dead (p : Value) (k : ByteArray) (w : World) (h : SDead w p) : Calls Try.prog 61 #[p, .string k] w fun e w' => e = .returned (.int .i64 0) ∧ Below w.heap.size w w' := by
  have HN := Lib.hid (numbers_dead p k w h)
  clear h
  go_enter Try.func61, Try.ntmps61
  go_wp2_with (go_at_call 111; refine HN.out.mono ?_; rintro e w1 ⟨rfl, hb1⟩; have HB1 := Lib.hid hb1; clear hb1)
  go_ret
  exact ⟨rfl, HB1.out⟩
end Go.Proofs.Ytedkhpnlhkjjgaa
