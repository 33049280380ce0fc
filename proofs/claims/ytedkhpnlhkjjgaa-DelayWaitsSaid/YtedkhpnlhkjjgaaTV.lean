/- cell.Next on a live store: of a number that is there, and of none. -/
import Derived.Test.YtedkhpnlhkjjgaaTU
namespace Go.Proofs.Ytedkhpnlhkjjgaa
open Go.RowKit Go.Maps

/-- the number at a key -/
def intAt (L : SL) (k : ByteArray) (n : Nat) : Prop := (n = 0 ∧ sget L k = none) ∨ sget L k = some (numStr n)
set_option maxRecDepth 100000 in
set_option maxHeartbeats 1000000 in
theorem cint_at {w W : World} {b : Nat} {F : List Nat} {L : SL} {q : Nat} {qs : List Value} (h : SNew w W b F L q qs) (k : ByteArray) (n : Nat) (hk : k.size ≤ maxLen) (he : intAt L k n) (hn : n < 2 ^ 63) :
    Calls Try.prog 61 #[.pointer (some ⟨b, 0, none⟩), .string k] W fun e W' => e = .returned (.int .i64 (n : Nat)) ∧ Below W.heap.size W W' := by
  rcases he with ⟨rfl, he⟩ | he
  · exact cint_none h k hk he
  · exact cint_some h k n hk he hn
set_option maxRecDepth 100000 in
set_option maxHeartbeats 1000000 in
theorem cnext_walk {w W : World} {b : Nat} {F : List Nat} {L : SL} {q : Nat} {qs : List Value} (h : SNew w W b F L q qs) (k : ByteArray) (n : Nat) (hk : k.size ≤ maxLen) (hk0 : k ≠ ⟨#[]⟩) (he : intAt L k n) (hn : n + 1 < 2 ^ 63) (hN : L.length < 128) (hq : q < 1000000) :
    Calls Try.prog 63 #[.pointer (some ⟨b, 0, none⟩), .string k] W fun e W' => e = .returned (.int .i64 ((n : Int) + 1)) ∧ LiveTo w W W' b F (setL L k (numStr ((n : Int) + 1))) (q + 1) := by
  have HM := Lib.hid (made_live b F L q qs W h.s)
  have HI := Lib.hid (cint_at h k n hk he (by omega))
  have HS := Lib.hid (fun (W1 : World) (hb : Below W.heap.size W W1) => (csetInt_set (h.below hb) k ((n : Int) + 1) hk hk0 (by omega) (by omega) hN hq).mono fun e W' hp => (⟨hp.1, hp.2.pre hb⟩ : e = .returned (.tuple #[]) ∧ LiveTo w W W' b F (setL L k (numStr ((n : Int) + 1))) (q + 1)))
  have p1 : (n : Int) < 9223372036854775807 := by omega
  obtain ⟨L', hL'⟩ : ∃ y, y = setL L k (numStr ((n : Int) + 1)) := ⟨_, rfl⟩
  rw [← hL'] at HS ⊢
  clear h hk hk0 he hn hN hq hL'
  go_enter Try.func63, Try.ntmps63
  go_wp2_with (first
    | (go_at_call 82; refine (HS.out w2 HB2.out).mono ?_; rintro e w3 ⟨rfl, h3⟩; have H3 := Lib.hid h3; clear h3)
    | (go_at_call 61; refine HI.out.mono ?_; rintro e w2 ⟨rfl, hb2⟩; have HB2 := Lib.hid hb2; clear hb2)
    | (go_at_call 27; refine HM.out.mono ?_; rintro e w1 ⟨rfl, rfl⟩))
  go_ret
  exact ⟨rfl, H3.out⟩
end Go.Proofs.Ytedkhpnlhkjjgaa
