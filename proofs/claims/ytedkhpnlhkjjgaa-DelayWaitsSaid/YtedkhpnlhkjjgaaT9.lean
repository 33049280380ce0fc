/- A dead store's Settle, Set, Delete, Undo, Mark, Len, All, Under, Copy; tallagelaw08.lives: walked. -/
import Derived.Test.YtedkhpnlhkjjgaaT8
namespace Go.Proofs.Ytedkhpnlhkjjgaa
open Go.RowKit Go.Maps Go.Sort

set_option maxRecDepth 100000 in
set_option maxHeartbeats 400000 in
theorem set_dead (p : Value) (k : ByteArray) (v : ByteArray) (w : World) (h : SDead w p) : Calls Try.prog 64 #[p, .string k, .string v] w fun e w' => e = .returned (.int .i64 1) ∧ w = w' := by
  have HM := Lib.hid (made_dead p w h)
  clear h
  go_enter Try.func64, Try.ntmps64
  go_wp2_with (go_at_call 27; refine HM.out.mono ?_; rintro e w1 ⟨rfl, rfl⟩)
  go_ret
  exact ⟨rfl, rfl⟩

set_option maxRecDepth 100000 in
set_option maxHeartbeats 400000 in
theorem delete_dead (p : Value) (k : ByteArray) (w : World) (h : SDead w p) : Calls Try.prog 76 #[p, .string k] w fun e w' => e = .returned (.bool false) ∧ w = w' := by
  have HM := Lib.hid (made_dead p w h)
  clear h
  go_enter Try.func76, Try.ntmps76
  go_wp2_with (go_at_call 27; refine HM.out.mono ?_; rintro e w1 ⟨rfl, rfl⟩)
  go_ret
  exact ⟨rfl, rfl⟩

set_option maxRecDepth 100000 in
set_option maxHeartbeats 400000 in
theorem undo_dead (p : Value) (n : Int) (w : World) (h : SDead w p) : Calls Try.prog 89 #[p, .int .i64 n] w fun e w' => e = .returned (.bool false) ∧ w = w' := by
  have HM := Lib.hid (made_dead p w h)
  clear h
  go_enter Try.func89, Try.ntmps89
  go_wp2_with (go_at_call 27; refine HM.out.mono ?_; rintro e w1 ⟨rfl, rfl⟩)
  go_ret
  exact ⟨rfl, rfl⟩

set_option maxRecDepth 100000 in
set_option maxHeartbeats 400000 in
theorem mark_dead (p : Value) (w : World) (h : SDead w p) : Calls Try.prog 87 #[p] w fun e w' => e = .returned (.int .i64 0) ∧ w = w' := by
  have HM := Lib.hid (made_dead p w h)
  clear h
  go_enter Try.func87, Try.ntmps87
  go_wp2_with (go_at_call 27; refine HM.out.mono ?_; rintro e w1 ⟨rfl, rfl⟩)
  go_ret
  exact ⟨rfl, rfl⟩

set_option maxRecDepth 100000 in
set_option maxHeartbeats 400000 in
theorem len_dead (p : Value) (w : World) (h : SDead w p) : Calls Try.prog 26 #[p] w fun e w' => e = .returned (.int .i64 0) ∧ w = w' := by
  have HM := Lib.hid (made_dead p w h)
  clear h
  go_enter Try.func26, Try.ntmps26
  go_wp2_with (go_at_call 27; refine HM.out.mono ?_; rintro e w1 ⟨rfl, rfl⟩)
  go_ret
  exact ⟨rfl, rfl⟩

set_option maxRecDepth 100000 in
set_option maxHeartbeats 400000 in
theorem under_dead (p : Value) (k : ByteArray) (w : World) (h : SDead w p) : Calls Try.prog 124 #[p, .string k] w fun e w' => e = .returned (.slice none 0 0) ∧ w = w' := by
  have HM := Lib.hid (made_dead p w h)
  clear h
  go_enter Try.func124, Try.ntmps124
  go_wp2_with (go_at_call 27; refine HM.out.mono ?_; rintro e w1 ⟨rfl, rfl⟩)
  go_ret
  exact ⟨rfl, rfl⟩

/-- a store that a call made, all of whose blocks are newer than w -/
structure SNew (w W : World) (b : Nat) (F : List Nat) (L : SL) (q : Nat) (qs : List Value) : Prop where
  s : StP W b F L q qs
  f : ∀ k ∈ F, w.heap.size ≤ k
  l : Below w.heap.size w W
theorem SNew.set {w W W' : World} {b : Nat} {F : List Nat} {L L' : SL} {q q' : Nat} {qs qs' : List Value} {F' : List Nat} (h : SNew w W b F L q qs) (hs : StP W' b F' L' q' qs') (ht : Touch F W W') (hf : ∀ k ∈ F', k ∈ F ∨ W.heap.size ≤ k) : SNew w W' b F' L' q' qs' :=
  ⟨hs, fun k hk => by
    rcases hf k hk with h1 | h1
    · exact h.f k h1
    · have := h.l.size; omega, h.l.trans (ht.below h.f h.l.size)⟩
theorem SNew.below {w W W' : World} {b : Nat} {F : List Nat} {L : SL} {q : Nat} {qs : List Value} (h : SNew w W b F L q qs) (hb : Below W.heap.size W W') : SNew w W' b F L q qs := ⟨h.s.below hb, h.f, h.l.trans (hb.mono h.l.size)⟩
theorem SNew.set_new {w W : World} {b : Nat} {F : List Nat} {L : SL} {q : Nat} {qs : List Value} (h : SNew w W b F L q qs) (k v : ByteArray) (hk : k.size ≤ maxLen) (hv : v.size ≤ maxLen) (hk0 : k ≠ ⟨#[]⟩) (hN : L.length < 128) (hq : q < 1000000) (hne : sget L k ≠ some v) :
    Calls Try.prog 64 #[.pointer (some ⟨b, 0, none⟩), .string k, .string v] W fun e W' => e = .returned (.int .i64 0) ∧ ∃ F', SNew w W' b F' (sset L k v) (q + 1) (qs ++ chg k (sget L k).isSome ((sget L k).getD ⟨#[]⟩)) ∧ Touch F W W' := by
  obtain ⟨bm, vb, vk, vq, hF, hM⟩ := h.s
  refine (_root_.Go.Proofs.Ytedkhpnlhkjjgaa.set_new b bm vb vk vq L q qs k v W hM hk hv hk0 hN hq hne).mono ?_
  rintro e W' ⟨he, F', hs, ht, hf⟩
  rw [← hF] at ht hf
  exact ⟨he, F', h.set hs ht hf, ht⟩
theorem SNew.set_same {w W : World} {b : Nat} {F : List Nat} {L : SL} {q : Nat} {qs : List Value} (h : SNew w W b F L q qs) (k v : ByteArray) (hk : k.size ≤ maxLen) (hk0 : k ≠ ⟨#[]⟩) (he : sget L k = some v) :
    Calls Try.prog 64 #[.pointer (some ⟨b, 0, none⟩), .string k, .string v] W fun e W' => e = .returned (.int .i64 0) ∧ ∃ F', SNew w W' b F' L q qs ∧ Touch F W W' := by
  refine (_root_.Go.Proofs.Ytedkhpnlhkjjgaa.set_same b F L q qs k v W h.s hk hk0 he).mono ?_
  rintro e W' ⟨he, F', hs, ht, hf⟩
  exact ⟨he, F', h.set hs ht hf, ht⟩
theorem SNew.undo_one {w W : World} {b : Nat} {F : List Nat} {L : SL} {m : Nat} {qs : List Value} {k was : ByteArray} (h : SNew w W b F L (m + 1) (qs ++ chg k true was)) (hql : qs.length = m * 3) (hm : m < 1000000) (hk : k.size ≤ maxLen) (hv : was.size ≤ maxLen) (hN : L.length < 128) :
    Calls Try.prog 89 #[.pointer (some ⟨b, 0, none⟩), .int .i64 (m : Nat)] W fun e W' => e = .returned (.bool true) ∧ ∃ F', SNew w W' b F' (sset L k was) m qs ∧ Touch F W W' := by
  obtain ⟨bm, vb, vk, vq, hF, hM⟩ := h.s
  refine (_root_.Go.Proofs.Ytedkhpnlhkjjgaa.undo_one b bm vb vk vq L m qs k was W hM hql hm hk hv hN).mono ?_
  rintro e W' ⟨he, F', hs, ht, hf⟩
  rw [← hF] at ht hf
  exact ⟨he, F', h.set hs ht hf, ht⟩
theorem SNew.get_some {w W : World} {b : Nat} {F : List Nat} {L : SL} {q : Nat} {qs : List Value} (h : SNew w W b F L q qs) (k v : ByteArray) (hk : k.size ≤ maxLen) (he : sget L k = some v) :
    Calls Try.prog 47 #[.pointer (some ⟨b, 0, none⟩), .string k] W fun e W' => e = .returned (.tuple #[.string v, .bool true]) ∧ SNew w W' b F L q qs ∧ Below W.heap.size W W' := by
  refine (sget_live b F L q qs k W h.s hk).mono ?_
  rintro e W' ⟨h1, hb⟩
  rw [he] at h1
  exact ⟨h1, h.below hb, hb⟩
theorem SNew.get_none {w W : World} {b : Nat} {F : List Nat} {L : SL} {q : Nat} {qs : List Value} (h : SNew w W b F L q qs) (k : ByteArray) (hk : k.size ≤ maxLen) (he : sget L k = none) :
    Calls Try.prog 47 #[.pointer (some ⟨b, 0, none⟩), .string k] W fun e W' => e = .returned (.tuple #[.string ⟨#[]⟩, .bool false]) ∧ SNew w W' b F L q qs ∧ Below W.heap.size W W' := by
  refine (sget_live b F L q qs k W h.s hk).mono ?_
  rintro e W' ⟨h1, hb⟩
  rw [he] at h1
  exact ⟨h1, h.below hb, hb⟩
theorem SNew.new (w W : World) (hb : Below w.heap.size w W) : Calls Try.prog 13 #[] W fun e W' => ∃ b F, e = .returned (.pointer (some ⟨b, 0, none⟩)) ∧ SNew w W' b F [] 0 [] ∧ Below W.heap.size W W' ∧ ∀ k ∈ F, W.heap.size ≤ k := by
  refine (new_walk W).mono ?_
  rintro e W' ⟨b, F, he, hs, hf, hB⟩
  exact ⟨b, F, he, ⟨hs, fun k hk => Nat.le_trans hb.size (hf k hk), hb.trans (hB.mono hb.size)⟩, hB, hf⟩
end Go.Proofs.Ytedkhpnlhkjjgaa
