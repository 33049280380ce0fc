/- The law BankKeys, walked. -/
import Derived.Test.YtedkhpnlhkjjgaaG23
import Derived.Test.YtedkhpnlhkjjgaaG24
import Derived.Lib.QuietBelow
namespace Go.Proofs.Ytedkhpnlhkjjgaa
open Go.RowKit Go.Maps Go.Sort

set_option maxRecDepth 100000 in
set_option maxHeartbeats 1000000 in
theorem bankKeys_of (t a : Int) (K1 K2 K3 K4 K6 : ByteArray) (h1 : keyStr 1 (two2 t a) 2 = K1) (h2 : keyStr 2 (fun _ => t) 1 = K2) (h3 : keyStr 3 (fun _ => t) 1 = K3) (h4 : keyStr 4 (fun _ => t) 1 = K4) (h6 : keyStr 6 (two2 t a) 2 = K6)
    (w : World) (ht : t < 2 ^ 63) (ha : a < 2 ^ 63) : Calls Try.prog 7 #[.int .i64 t, .int .i64 a] w fun e w' => e = .returned (.bool true) ∧ Below w.heap.size w w' := by
  have H1 := Lib.hid (fun w => account_is t a K1 h1 w ht ha)
  have R1 := Lib.hid (fun w => raccount_is t a K1 h1 w ht ha)
  have H2 := Lib.hid (fun w => supply_is t K2 h2 w ht)
  have R2 := Lib.hid (fun w => rsupply_is t K2 h2 w ht)
  have H3 := Lib.hid (fun w => sink_is t K3 h3 w ht)
  have R3 := Lib.hid (fun w => rsink_is t K3 h3 w ht)
  have H4 := Lib.hid (fun w => pool_is t K4 h4 w ht)
  have R4 := Lib.hid (fun w => rpool_is t K4 h4 w ht)
  have H6 := Lib.hid (fun w => stock_is t a K6 h6 w ht ha)
  have R6 := Lib.hid (fun w => rstock_is t a K6 h6 w ht ha)
  clear h1 h2 h3 h4 h6 ht ha
  go_enter Try.func7, Try.ntmps7
  go_wp2_with (first
    | (go_at_call 42; with_reducible refine (lives17_walk _).mono ?_; rintro e wB ⟨rfl, hB⟩; have BB := Lib.hid (BA.out.trans (hB.mono BA.out.size)); clear hB)
    | (go_at_call 41; with_reducible refine (R6.out _).mono ?_; rintro e wA ⟨rfl, hA⟩; have BA := Lib.hid (B9.out.trans (hA.mono B9.out.size)); clear hA)
    | (go_at_call 40; with_reducible refine (H6.out _).mono ?_; rintro e w9 ⟨rfl, h9⟩; have B9 := Lib.hid (B8.out.trans (h9.mono B8.out.size)); clear h9)
    | (go_at_call 39; with_reducible refine (R4.out _).mono ?_; rintro e w8 ⟨rfl, h8⟩; have B8 := Lib.hid (B7.out.trans (h8.mono B7.out.size)); clear h8)
    | (go_at_call 38; with_reducible refine (H4.out _).mono ?_; rintro e w7 ⟨rfl, h7⟩; have B7 := Lib.hid (B6.out.trans (h7.mono B6.out.size)); clear h7)
    | (go_at_call 37; with_reducible refine (R3.out _).mono ?_; rintro e w6 ⟨rfl, h6⟩; have B6 := Lib.hid (B5.out.trans (h6.mono B5.out.size)); clear h6)
    | (go_at_call 36; with_reducible refine (H3.out _).mono ?_; rintro e w5 ⟨rfl, h5⟩; have B5 := Lib.hid (B4.out.trans (h5.mono B4.out.size)); clear h5)
    | (go_at_call 35; with_reducible refine (R2.out _).mono ?_; rintro e w4 ⟨rfl, h4⟩; have B4 := Lib.hid (B3.out.trans (h4.mono B3.out.size)); clear h4)
    | (go_at_call 34; with_reducible refine (H2.out _).mono ?_; rintro e w3 ⟨rfl, h3⟩; have B3 := Lib.hid (B2.out.trans (h3.mono B2.out.size)); clear h3)
    | (go_at_call 33; with_reducible refine (R1.out _).mono ?_; rintro e w2 ⟨rfl, h2⟩; have B2 := Lib.hid (B1.out.trans (h2.mono B1.out.size)); clear h2)
    | (go_at_call 32; with_reducible refine (H1.out _).mono ?_; rintro e w1 ⟨rfl, h1⟩; have B1 := Lib.hid h1; clear h1))
  go_ret
  exact ⟨rfl, BB.out⟩
theorem bankKeys_walk (t a : Int) (w : World) (ht : t < 2 ^ 63) (ha : a < 2 ^ 63) : Calls Try.prog 7 #[.int .i64 t, .int .i64 a] w fun e w' => e = .returned (.bool true) ∧ Below w.heap.size w w' :=
  bankKeys_of t a _ _ _ _ _ rfl rfl rfl rfl rfl w ht ha
end Go.Proofs.Ytedkhpnlhkjjgaa
