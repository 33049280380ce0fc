/- cell.put and cell.SetInt of anything, on a live store. -/
import Derived.Test.YtamhlpjiiplmgaaDoorG10
import Derived.Shelf.Strings.Builder1
namespace Go.Proofs.YtamhlpjiiplmgaaDoor
open Go.RowKit Go.Maps

/-- what put leaves: an empty value is not there -/
def putV (L : SL) (k v : ByteArray) : SL := if v = ⟨#[]⟩ then sdel L k else setL L k v
set_option maxRecDepth 100000 in
set_option maxHeartbeats 1000000 in
theorem cput_del {w W : World} {b : Nat} {F : List Nat} {L : SL} {q : Nat} {qs : List Value} (h : SNew w W b F L q qs) (k : ByteArray) (hk : k.size ≤ maxLen) (hN : L.length ≤ 1000000) (hq : q < 1000000) :
    Calls Tryd.prog 24 #[.pointer (some ⟨b, 0, none⟩), .string k, .string ⟨#[]⟩] W fun e W' => e = .returned (.tuple #[]) ∧ LiveTo w W W' b F (sdel L k) (q + 1) := by
  have HS := Lib.hid (h.del k hk hN hq)
  clear h hk hN hq
  go_enter Tryd.func24, Tryd.ntmps24
  go_wp2_with (go_at_call 35; refine HS.out.mono ?_; rintro e w1 ⟨rfl, h1⟩; have H1 := Lib.hid h1; clear h1)
  refine bodyPost_ret (v := .tuple #[]) (by simp [results, Tryd.results24, go_sem]) rfl ⟨rfl, H1.out⟩
theorem cput_any {w W : World} {b : Nat} {F : List Nat} {L : SL} {q : Nat} {qs : List Value} (h : SNew w W b F L q qs) (k v : ByteArray) (hk : k.size ≤ maxLen) (hv : v.size ≤ maxLen) (hk0 : k ≠ ⟨#[]⟩) (hN : L.length < 1000000) (hq : q < 1000000) :
    Calls Tryd.prog 24 #[.pointer (some ⟨b, 0, none⟩), .string k, .string v] W fun e W' => e = .returned (.tuple #[]) ∧ LiveTo w W W' b F (putV L k v) (q + 1) := by
  unfold putV
  by_cases hv0 : v = ⟨#[]⟩
  · rw [if_pos hv0, hv0]
    exact cput_del h k hk (by omega) hq
  · rw [if_neg hv0]
    exact cput_set h k v hk hv hk0 hv0 hN hq
set_option maxRecDepth 100000 in
set_option maxHeartbeats 1000000 in
theorem csetInt_del {w W : World} {b : Nat} {F : List Nat} {L : SL} {q : Nat} {qs : List Value} (h : SNew w W b F L q qs) (k : ByteArray) (n : Int) (hk : k.size ≤ maxLen) (h1 : n < 1) (hN : L.length ≤ 1000000) (hq : q < 1000000) :
    Calls Tryd.prog 15 #[.pointer (some ⟨b, 0, none⟩), .string k, .int .i64 n] W fun e W' => e = .returned (.tuple #[]) ∧ LiveTo w W W' b F (sdel L k) (q + 1) := by
  have HS := Lib.hid (cput_del h k hk hN hq)
  clear h hk hN hq
  go_enter Tryd.func15, Tryd.ntmps15
  go_wp2_with (go_at_call 24; refine HS.out.mono ?_; rintro e w2 ⟨rfl, h1⟩; have H1 := Lib.hid h1; clear h1)
  refine bodyPost_ret (v := .tuple #[]) (by simp [results, Tryd.results15, go_sem]) rfl ⟨rfl, H1.out⟩
theorem csetInt_any {w W : World} {b : Nat} {F : List Nat} {L : SL} {q : Nat} {qs : List Value} (h : SNew w W b F L q qs) (k : ByteArray) (n : Int) (hk : k.size ≤ maxLen) (hk0 : k ≠ ⟨#[]⟩) (h2 : n < 2 ^ 63) (hN : L.length < 1000000) (hq : q < 1000000) :
    Calls Tryd.prog 15 #[.pointer (some ⟨b, 0, none⟩), .string k, .int .i64 n] W fun e W' => e = .returned (.tuple #[]) ∧ LiveTo w W W' b F (if n < 1 then sdel L k else setL L k (numStr n)) (q + 1) := by
  by_cases h1 : n < 1
  · rw [if_pos h1]
    exact csetInt_del h k n hk h1 (by omega) hq
  · rw [if_neg h1]
    exact csetInt_set h k n hk hk0 (by omega) h2 hN hq
end Go.Proofs.YtamhlpjiiplmgaaDoor

namespace Go.Proofs.YtamhlpjiiplmgaaDoor
open Go.RowKit Go.Maps

/-- the number at a key -/
def intAt (L : SL) (k : ByteArray) (n : Nat) : Prop := (n = 0 ∧ sget L k = none) ∨ sget L k = some (numStr n)
set_option maxRecDepth 100000 in
set_option maxHeartbeats 1000000 in
theorem cint_at {w W : World} {b : Nat} {F : List Nat} {L : SL} {q : Nat} {qs : List Value} (h : SNew w W b F L q qs) (k : ByteArray) (n : Nat) (hk : k.size ≤ maxLen) (he : intAt L k n) (hn : n < 2 ^ 63) :
    Calls Tryd.prog 19 #[.pointer (some ⟨b, 0, none⟩), .string k] W fun e W' => e = .returned (.int .i64 (n : Nat)) ∧ Below W.heap.size W W' := by
  rcases he with ⟨rfl, he⟩ | he
  · exact cint_none h k hk he
  · exact cint_some h k n hk he hn
end Go.Proofs.YtamhlpjiiplmgaaDoor

namespace Go.Proofs.YtamhlpjiiplmgaaDoor
open Go.RowKit Go.Maps

theorem bldByte : (Tryd.prog.info? 5).map (fun i => (i.zero, i.size, i.bytes)) = some (some (.int .u8 0), 1, 1) := by kernel_rfl
end Go.Proofs.YtamhlpjiiplmgaaDoor
