/- The laws RateStays and RateBack, walked. -/
import Derived.Test.YtomhbggfdjooaaaDoorVR
import Derived.Test.YtomhbggfdjooaaaDoorVM
namespace Go.Proofs.YtomhbggfdjooaaaDoor
open Go.RowKit Go.Sort

theorem rategood0 (a : Nat) (g : Bool) (W : World) (ha : a < 2 ^ 256) (hg : rgood a 0 = g) : Calls Tryd.prog 10 #[.agg #[.int .u64 (limb a 0 : Nat), .int .u64 (limb a 1 : Nat), .int .u64 (limb a 2 : Nat), .int .u64 (limb a 3 : Nat)], .agg #[.int .u64 0, .int .u64 0, .int .u64 0, .int .u64 0]] W fun e w' => e = .returned (.bool g) ∧ Below W.heap.size W w' := by
  have h := rateGood_walk a 0 W ha (by decide)
  rw [hg, U_zero] at h
  exact h
theorem rategoodW (a b : Nat) (g : Bool) (W : World) (ha : a < 2 ^ 256) (hb : b < 2 ^ 256) (hg : rgood a b = g) : Calls Tryd.prog 10 #[.agg #[.int .u64 (limb a 0 : Nat), .int .u64 (limb a 1 : Nat), .int .u64 (limb a 2 : Nat), .int .u64 (limb a 3 : Nat)], .agg #[.int .u64 (limb b 0 : Nat), .int .u64 (limb b 1 : Nat), .int .u64 (limb b 2 : Nat), .int .u64 (limb b 3 : Nat)]] W fun e w' => e = .returned (.bool g) ∧ Below W.heap.size W w' := by
  rw [← hg]; exact rateGood_walk a b W ha hb
theorem raddW (a b c : Nat) (W : World) (ha : a < 2 ^ 256) (hb : b < 2 ^ 256) (hc : a + b = c) (hl : c < 2 ^ 256) : Calls Tryd.prog 14 #[.agg #[.int .u64 (limb a 0 : Nat), .int .u64 (limb a 1 : Nat), .int .u64 (limb a 2 : Nat), .int .u64 (limb a 3 : Nat)], .agg #[.int .u64 (limb b 0 : Nat), .int .u64 (limb b 1 : Nat), .int .u64 (limb b 2 : Nat), .int .u64 (limb b 3 : Nat)]] W fun e w' => e = .returned (.tuple #[U c, .bool true]) ∧ Below W.heap.size W w' := by
  have h := radd_walk a b W ha hb
  unfold addv addk at h
  rw [hc, if_pos hl, decide_eq_true hl] at h
  exact h
theorem rsubW (a b c : Nat) (W : World) (ha : a < 2 ^ 256) (hb : b < 2 ^ 256) (hle : b ≤ a) (hc : a - b = c) : Calls Tryd.prog 15 #[.agg #[.int .u64 (limb a 0 : Nat), .int .u64 (limb a 1 : Nat), .int .u64 (limb a 2 : Nat), .int .u64 (limb a 3 : Nat)], .agg #[.int .u64 (limb b 0 : Nat), .int .u64 (limb b 1 : Nat), .int .u64 (limb b 2 : Nat), .int .u64 (limb b 3 : Nat)]] W fun e w' => e = .returned (.tuple #[U c, .bool true]) ∧ Below W.heap.size W w' := by
  have h := rsub_walk a b W ha hb
  unfold subv subk at h
  rw [if_pos hle, decide_eq_true hle, hc] at h
  exact h
theorem rcmpW_v (a b : Nat) (c : Int) (W : World) (ha : a < 2 ^ 256) (hb : b < 2 ^ 256) (hc : cmpU a b = c) : Calls Tryd.prog 13 #[.agg #[.int .u64 (limb a 0 : Nat), .int .u64 (limb a 1 : Nat), .int .u64 (limb a 2 : Nat), .int .u64 (limb a 3 : Nat)], .agg #[.int .u64 (limb b 0 : Nat), .int .u64 (limb b 1 : Nat), .int .u64 (limb b 2 : Nat), .int .u64 (limb b 3 : Nat)]] W fun e w' => e = .returned (.int .i64 c) ∧ Below W.heap.size W w' := by
  rw [← hc]; exact rcmp_walk a b W ha hb
theorem cmpU_pos {a b : Nat} : 0 < cmpU a b ↔ b < a := by
  have := cmpU_le a b
  omega

set_option maxRecDepth 100000 in
set_option maxHeartbeats 4000000 in
theorem rateStays_walk (s t a : Nat) (w : World) (hs : s < 2 ^ 256) (ht : t < 2 ^ 256) (ha : a < 2 ^ 256) (hv : Vr w) : Calls Tryd.prog 4 #[U s, U t, U a] w fun e w' => e = .returned (.bool true) ∧ Below w.heap.size w w' := by
  have HL := Lib.hid (fun W (hW : Below w.heap.size w W) => lives18_walk W (hv.below hW))
  have K0 := Lib.hid (Bk.three (a := s) (b := t) (c := a) (w := w) (t1 := 24) (t2 := 24) (t3 := 24))
  have k0 := K0.out
  obtain ⟨g, hg⟩ : ∃ g, rgood s t = g := ⟨_, rfl⟩
  obtain ⟨k, hk⟩ : ∃ g, rgood a 0 = g := ⟨_, rfl⟩
  have HG := Lib.hid (fun W => show Calls Tryd.prog 10 #[.agg #[.int .u64 (limb s 0 : Nat), .int .u64 (limb s 1 : Nat), .int .u64 (limb s 2 : Nat), .int .u64 (limb s 3 : Nat)], .agg #[.int .u64 (limb t 0 : Nat), .int .u64 (limb t 1 : Nat), .int .u64 (limb t 2 : Nat), .int .u64 (limb t 3 : Nat)]] W fun e w' => e = .returned (.bool g) ∧ Below W.heap.size W w' from rategoodW s t g W hs ht hg)
  have HK := Lib.hid (fun W => show Calls Tryd.prog 10 #[.agg #[.int .u64 (limb a 0 : Nat), .int .u64 (limb a 1 : Nat), .int .u64 (limb a 2 : Nat), .int .u64 (limb a 3 : Nat)], .agg #[.int .u64 0, .int .u64 0, .int .u64 0, .int .u64 0]] W fun e w' => e = .returned (.bool k) ∧ Below W.heap.size W w' from rategood0 a k W ha hk)
  rcases (by cases g <;> cases k <;> simp : g = false ∨ g = true ∧ k = false ∨ g = true ∧ k = true) with rfl | ⟨rfl, rfl⟩ | ⟨rfl, rfl⟩
  · clear hs ht ha hv hg hk
    unfold U
    go_enter Tryd.func4, Tryd.ntmps4
    go_wp2_with (first
      | (go_at_call 12; have g5 := k1; clear g5; refine (HL.out _ k1.l).mono ?_; rintro e w2 ⟨rfl, hb2⟩; have k2 := k1.call hb2; clear hb2)
      | (go_at_call 10; have g5 := k0; clear g5; refine (HG.out _).mono ?_; rintro e w1 ⟨rfl, hb1⟩; have k1 := k0.call hb1; clear hb1; (try unfold U)))
    go_ret
    exact ⟨rfl, k2.l⟩
  · clear hs ht ha hv hg hk
    unfold U
    go_enter Tryd.func4, Tryd.ntmps4
    go_wp2_with (first
      | (go_at_call 12; have g5 := k2; clear g5; refine (HL.out _ k2.l).mono ?_; rintro e w3 ⟨rfl, hb3⟩; have k3 := k2.call hb3; clear hb3)
      | (go_at_call 10; have g5 := k1; clear g5; refine (HK.out _).mono ?_; rintro e w2 ⟨rfl, hb2⟩; have k2 := k1.call hb2; clear hb2; (try unfold U))
      | (go_at_call 10; have g5 := k0; clear g5; refine (HG.out _).mono ?_; rintro e w1 ⟨rfl, hb1⟩; have k1 := k0.call hb1; obtain ⟨⟨ca10, ca11, ca12, ca13⟩, ca14⟩ := k1.cells (w.heap.size + 1 + 1) a (by simp); clear hb1; (try unfold U)))
    go_ret
    exact ⟨rfl, k3.l⟩
  · have ham : a ≤ MOST := rgood_zero.1 hk
    obtain ⟨hsm, htm, hts⟩ := rgood_iff.1 hg
    obtain ⟨x, hx⟩ : ∃ x, shv s t a = x := ⟨_, rfl⟩
    have hsh := sh_good hg ham
    rw [hx] at hsh
    obtain ⟨hsk, hxa, hxm⟩ := hsh
    have hxl : x < 2 ^ 256 := Nat.lt_of_le_of_lt hxa ha
    obtain ⟨m, hm⟩ : ∃ m, s + a = m := ⟨_, rfl⟩
    obtain ⟨n, hn⟩ : ∃ n, t + x = n := ⟨_, rfl⟩
    have hml : m < 2 ^ 256 := by rw [← hm]; exact most_two hsm ham
    have hnm : n ≤ m := by rw [← hm, ← hn]; exact Nat.add_le_add hts hxa
    have hnl : n < 2 ^ 256 := Nat.lt_of_le_of_lt hnm hml
    have HS := Lib.hid (fun W (hW : Below w.heap.size w W) => show Calls Tryd.prog 6 #[.agg #[.int .u64 (limb s 0 : Nat), .int .u64 (limb s 1 : Nat), .int .u64 (limb s 2 : Nat), .int .u64 (limb s 3 : Nat)], .agg #[.int .u64 (limb t 0 : Nat), .int .u64 (limb t 1 : Nat), .int .u64 (limb t 2 : Nat), .int .u64 (limb t 3 : Nat)], .agg #[.int .u64 (limb a 0 : Nat), .int .u64 (limb a 1 : Nat), .int .u64 (limb a 2 : Nat), .int .u64 (limb a 3 : Nat)]] W fun e w' => e = .returned (.tuple #[U x, .bool true]) ∧ Below W.heap.size W w' from by have h := rateShares_walk s t a W hs ht ha (hv.below hW); rw [hx, hsk] at h; exact h)
    have HM := Lib.hid (fun W => show Calls Tryd.prog 14 #[.agg #[.int .u64 (limb s 0 : Nat), .int .u64 (limb s 1 : Nat), .int .u64 (limb s 2 : Nat), .int .u64 (limb s 3 : Nat)], .agg #[.int .u64 (limb a 0 : Nat), .int .u64 (limb a 1 : Nat), .int .u64 (limb a 2 : Nat), .int .u64 (limb a 3 : Nat)]] W fun e w' => e = .returned (.tuple #[U m, .bool true]) ∧ Below W.heap.size W w' from raddW s a m W hs ha hm hml)
    have HN := Lib.hid (fun W => show Calls Tryd.prog 14 #[.agg #[.int .u64 (limb t 0 : Nat), .int .u64 (limb t 1 : Nat), .int .u64 (limb t 2 : Nat), .int .u64 (limb t 3 : Nat)], .agg #[.int .u64 (limb x 0 : Nat), .int .u64 (limb x 1 : Nat), .int .u64 (limb x 2 : Nat), .int .u64 (limb x 3 : Nat)]] W fun e w' => e = .returned (.tuple #[U n, .bool true]) ∧ Below W.heap.size W w' from raddW t x n W ht hxl hn hnl)
    obtain ⟨c0, hc0⟩ : ∃ c, cmpU x a = c := ⟨_, rfl⟩
    have q0 : ¬ 0 < c0 := by rw [← hc0, cmpU_pos]; omega
    obtain ⟨c1, hc1⟩ : ∃ c, cmpU a t = c := ⟨_, rfl⟩
    obtain ⟨gm, hgm⟩ : ∃ g, rgood m 0 = g := ⟨_, rfl⟩
    have HC := Lib.hid (fun W => show Calls Tryd.prog 13 #[.agg #[.int .u64 (limb x 0 : Nat), .int .u64 (limb x 1 : Nat), .int .u64 (limb x 2 : Nat), .int .u64 (limb x 3 : Nat)], .agg #[.int .u64 (limb a 0 : Nat), .int .u64 (limb a 1 : Nat), .int .u64 (limb a 2 : Nat), .int .u64 (limb a 3 : Nat)]] W fun e w' => e = .returned (.int .i64 c0) ∧ Below W.heap.size W w' from rcmpW_v x a c0 W hxl ha hc0)
    have HD := Lib.hid (fun W => show Calls Tryd.prog 13 #[.agg #[.int .u64 (limb a 0 : Nat), .int .u64 (limb a 1 : Nat), .int .u64 (limb a 2 : Nat), .int .u64 (limb a 3 : Nat)], .agg #[.int .u64 (limb t 0 : Nat), .int .u64 (limb t 1 : Nat), .int .u64 (limb t 2 : Nat), .int .u64 (limb t 3 : Nat)]] W fun e w' => e = .returned (.int .i64 c1) ∧ Below W.heap.size W w' from rcmpW_v a t c1 W ha ht hc1)
    have HO := Lib.hid (fun W => show Calls Tryd.prog 10 #[.agg #[.int .u64 (limb m 0 : Nat), .int .u64 (limb m 1 : Nat), .int .u64 (limb m 2 : Nat), .int .u64 (limb m 3 : Nat)], .agg #[.int .u64 0, .int .u64 0, .int .u64 0, .int .u64 0]] W fun e w' => e = .returned (.bool gm) ∧ Below W.heap.size W w' from rategood0 m gm W hml hgm)
    have HF := Lib.hid (And.intro hs (And.intro ht (And.intro ha (And.intro hv (And.intro hg (And.intro hk (And.intro hsm (And.intro htm (And.intro hts (And.intro hxm (And.intro hml (And.intro hnl (And.intro hnm (And.intro hm (And.intro hn (And.intro hc1 hgm))))))))))))))))
    clear hs ht ha hv hg hk ham hsm htm hts hx hsk hxa hxm hxl hm hn hml hnm hnl hc0 hc1 hgm
    unfold U
    go_enter Tryd.func4, Tryd.ntmps4
    go_upto_region 8 with (first
      | (go_at_call 14; have g5 := k5; clear g5; refine (HN.out _).mono ?_; rintro e w6 ⟨rfl, hb6⟩; have k6 := Bk.push (t := 24) n (k5.call hb6); obtain ⟨⟨ca60, ca61, ca62, ca63⟩, ca64⟩ := k6.cells (w5.heap.size) m (by simp); clear hb6; (try unfold U))
      | (go_at_call 14; have g5 := k4; clear g5; refine (HM.out _).mono ?_; rintro e w5 ⟨rfl, hb5⟩; have k5 := Bk.push (t := 24) m (k4.call hb5); obtain ⟨⟨ca50, ca51, ca52, ca53⟩, ca54⟩ := k5.cells (w.heap.size + 1) t (by simp); obtain ⟨⟨cb50, cb51, cb52, cb53⟩, cb54⟩ := k5.cells (w3.heap.size) x (by simp); clear hb5; (try unfold U))
      | (go_at_call 13; have g5 := k3; clear g5; refine (HC.out _).mono ?_; rintro e w4 ⟨rfl, hb4⟩; have k4 := k3.call hb4; obtain ⟨⟨ca40, ca41, ca42, ca43⟩, ca44⟩ := k4.cells (w.heap.size) s (by simp); obtain ⟨⟨cb40, cb41, cb42, cb43⟩, cb44⟩ := k4.cells (w.heap.size + 1 + 1) a (by simp); clear hb4; (try unfold U))
      | (go_at_call 6; have g5 := k2; clear g5; refine (HS.out _ k2.l).mono ?_; rintro e w3 ⟨rfl, hb3⟩; have k3 := Bk.push (t := 24) x (k2.call hb3); obtain ⟨⟨ca30, ca31, ca32, ca33⟩, ca34⟩ := k3.cells (w.heap.size + 1 + 1) a (by simp); clear hb3; (try unfold U))
      | (go_at_call 10; have g5 := k1; clear g5; refine (HK.out _).mono ?_; rintro e w2 ⟨rfl, hb2⟩; have k2 := k1.call hb2; obtain ⟨⟨ca20, ca21, ca22, ca23⟩, ca24⟩ := k2.cells (w.heap.size) s (by simp); obtain ⟨⟨cb20, cb21, cb22, cb23⟩, cb24⟩ := k2.cells (w.heap.size + 1) t (by simp); obtain ⟨⟨cc20, cc21, cc22, cc23⟩, cc24⟩ := k2.cells (w.heap.size + 1 + 1) a (by simp); clear hb2; (try unfold U))
      | (go_at_call 10; have g5 := k0; clear g5; refine (HG.out _).mono ?_; rintro e w1 ⟨rfl, hb1⟩; have k1 := k0.call hb1; obtain ⟨⟨ca10, ca11, ca12, ca13⟩, ca14⟩ := k1.cells (w.heap.size + 1 + 1) a (by simp); clear hb1; (try unfold U)))
    obtain ⟨hs, ht, ha, hv, hg, hk, hsm, htm, hts, hxm, hml, hnl, hnm, hm, hn, hc1, hgm⟩ := HF.out
    obtain ⟨⟨cm0, cm1, cm2, cm3⟩, cm4⟩ := k6.cells w5.heap.size m (by simp)
    cases gm
    · clear hgm
      go_upto_region 10 with ((go_at_call 10; have g5 := k6; clear g5; refine (HO.out _).mono ?_; rintro e w7 ⟨rfl, hb7⟩; have k7 := k6.call hb7; obtain ⟨⟨ca70, ca71, ca72, ca73⟩, ca74⟩ := k7.cells (w.heap.size) s (by simp); obtain ⟨⟨cb70, cb71, cb72, cb73⟩, cb74⟩ := k7.cells (w.heap.size + 1) t (by simp); obtain ⟨⟨cc70, cc71, cc72, cc73⟩, cc74⟩ := k7.cells (w.heap.size + 1 + 1) a (by simp); clear hb7; (try unfold U)))
      by_cases h1 : 0 < c1
      · clear HF hs ht ha hv hg hk hsm htm hts hxm hml hnl hnm hm hn hc1
        go_wp2_with (first
          | (go_at_call 12; have g5 := k8; clear g5; refine (HL.out _ k8.l).mono ?_; rintro e w9 ⟨rfl, hb9⟩; have k9 := k8.call hb9; clear hb9)
          | (go_at_call 13; have g5 := k7; clear g5; refine (HD.out _).mono ?_; rintro e w8 ⟨rfl, hb8⟩; have k8 := k7.call hb8; clear hb8; (try unfold U)))
        go_ret
        exact ⟨rfl, k9.l⟩
      · have hat : a ≤ t := by rw [← hc1, cmpU_pos] at h1; omega
        obtain ⟨hq1, hq2, hq3⟩ := tk_sold hg hat
        obtain ⟨q, hq⟩ : ∃ q, tkv s t a = q := ⟨_, rfl⟩
        rw [hq] at hq2 hq3
        have hql : q < 2 ^ 256 := Nat.lt_of_le_of_lt hq2 hs
        obtain ⟨r, hr⟩ : ∃ r, s - q = r := ⟨_, rfl⟩
        obtain ⟨v, hvv⟩ : ∃ v, t - a = v := ⟨_, rfl⟩
        have hrl : r < 2 ^ 256 := Nat.lt_of_le_of_lt (by rw [← hr]; exact Nat.sub_le _ _) hs
        have hvl : v < 2 ^ 256 := Nat.lt_of_le_of_lt (by rw [← hvv]; exact Nat.sub_le _ _) ht
        have hrv : rgood r v = true := rgood_iff.2 ⟨Nat.le_trans (by rw [← hr]; exact Nat.sub_le _ _) hsm, Nat.le_trans (by rw [← hvv]; exact Nat.sub_le _ _) htm, by rw [← hr, ← hvv]; exact hq3⟩
        have HT := Lib.hid (fun W (hW : Below w.heap.size w W) => show Calls Tryd.prog 8 #[.agg #[.int .u64 (limb s 0 : Nat), .int .u64 (limb s 1 : Nat), .int .u64 (limb s 2 : Nat), .int .u64 (limb s 3 : Nat)], .agg #[.int .u64 (limb t 0 : Nat), .int .u64 (limb t 1 : Nat), .int .u64 (limb t 2 : Nat), .int .u64 (limb t 3 : Nat)], .agg #[.int .u64 (limb a 0 : Nat), .int .u64 (limb a 1 : Nat), .int .u64 (limb a 2 : Nat), .int .u64 (limb a 3 : Nat)]] W fun e w' => e = .returned (.tuple #[U q, .bool true]) ∧ Below W.heap.size W w' from by have h := rateTokens_walk s t a W hs ht ha (hv.below hW); rw [hq, hq1] at h; exact h)
        have HR := Lib.hid (fun W => show Calls Tryd.prog 15 #[.agg #[.int .u64 (limb s 0 : Nat), .int .u64 (limb s 1 : Nat), .int .u64 (limb s 2 : Nat), .int .u64 (limb s 3 : Nat)], .agg #[.int .u64 (limb q 0 : Nat), .int .u64 (limb q 1 : Nat), .int .u64 (limb q 2 : Nat), .int .u64 (limb q 3 : Nat)]] W fun e w' => e = .returned (.tuple #[U r, .bool true]) ∧ Below W.heap.size W w' from rsubW s q r W hs hql hq2 hr)
        have HVV := Lib.hid (fun W => show Calls Tryd.prog 15 #[.agg #[.int .u64 (limb t 0 : Nat), .int .u64 (limb t 1 : Nat), .int .u64 (limb t 2 : Nat), .int .u64 (limb t 3 : Nat)], .agg #[.int .u64 (limb a 0 : Nat), .int .u64 (limb a 1 : Nat), .int .u64 (limb a 2 : Nat), .int .u64 (limb a 3 : Nat)]] W fun e w' => e = .returned (.tuple #[U v, .bool true]) ∧ Below W.heap.size W w' from rsubW t a v W ht ha hat hvv)
        have HRV := Lib.hid (fun W => show Calls Tryd.prog 10 #[.agg #[.int .u64 (limb r 0 : Nat), .int .u64 (limb r 1 : Nat), .int .u64 (limb r 2 : Nat), .int .u64 (limb r 3 : Nat)], .agg #[.int .u64 (limb v 0 : Nat), .int .u64 (limb v 1 : Nat), .int .u64 (limb v 2 : Nat), .int .u64 (limb v 3 : Nat)]] W fun e w' => e = .returned (.bool true) ∧ Below W.heap.size W w' from rategoodW r v true W hrl hvl hrv)
        clear HF hs ht ha hv hg hk hsm htm hts hxm hml hnl hnm hm hn hc1 hat hq1 hq2 hq3 hq hql hr hvv hrl hvl hrv
        go_wp2_with (first
          | (go_at_call 12; have g5 := k12; clear g5; refine (HL.out _ k12.l).mono ?_; rintro e w13 ⟨rfl, hb13⟩; have k13 := k12.call hb13; clear hb13)
          | (go_at_call 10; have g5 := k11; clear g5; refine (HRV.out _).mono ?_; rintro e w12 ⟨rfl, hb12⟩; have k12 := k11.call hb12; clear hb12; (try unfold U))
          | (go_at_call 15; have g5 := k10; clear g5; refine (HVV.out _).mono ?_; rintro e w11 ⟨rfl, hb11⟩; have k11 := Bk.push (t := 24) v (k10.call hb11); obtain ⟨⟨ca110, ca111, ca112, ca113⟩, ca114⟩ := k11.cells (w10.heap.size) r (by simp); obtain ⟨⟨cb110, cb111, cb112, cb113⟩, cb114⟩ := k11.cells (w11.heap.size) v (by simp); clear hb11; (try unfold U))
          | (go_at_call 15; have g5 := k9; clear g5; refine (HR.out _).mono ?_; rintro e w10 ⟨rfl, hb10⟩; have k10 := Bk.push (t := 24) r (k9.call hb10); obtain ⟨⟨ca100, ca101, ca102, ca103⟩, ca104⟩ := k10.cells (w.heap.size + 1) t (by simp); obtain ⟨⟨cb100, cb101, cb102, cb103⟩, cb104⟩ := k10.cells (w.heap.size + 1 + 1) a (by simp); clear hb10; (try unfold U))
          | (go_at_call 8; have g5 := k8; clear g5; refine (HT.out _ k8.l).mono ?_; rintro e w9 ⟨rfl, hb9⟩; have k9 := Bk.push (t := 24) q (k8.call hb9); obtain ⟨⟨ca90, ca91, ca92, ca93⟩, ca94⟩ := k9.cells (w.heap.size) s (by simp); obtain ⟨⟨cb90, cb91, cb92, cb93⟩, cb94⟩ := k9.cells (w9.heap.size) q (by simp); clear hb9; (try unfold U))
          | (go_at_call 13; have g5 := k7; clear g5; refine (HD.out _).mono ?_; rintro e w8 ⟨rfl, hb8⟩; have k8 := k7.call hb8; obtain ⟨⟨ca80, ca81, ca82, ca83⟩, ca84⟩ := k8.cells (w.heap.size) s (by simp); obtain ⟨⟨cb80, cb81, cb82, cb83⟩, cb84⟩ := k8.cells (w.heap.size + 1) t (by simp); obtain ⟨⟨cc80, cc81, cc82, cc83⟩, cc84⟩ := k8.cells (w.heap.size + 1 + 1) a (by simp); clear hb8; (try unfold U)))
        go_ret
        exact ⟨rfl, k13.l⟩
    · have hmm : m ≤ MOST := rgood_zero.1 hgm
      have HP := Lib.hid (fun W => show Calls Tryd.prog 10 #[.agg #[.int .u64 (limb m 0 : Nat), .int .u64 (limb m 1 : Nat), .int .u64 (limb m 2 : Nat), .int .u64 (limb m 3 : Nat)], .agg #[.int .u64 (limb n 0 : Nat), .int .u64 (limb n 1 : Nat), .int .u64 (limb n 2 : Nat), .int .u64 (limb n 3 : Nat)]] W fun e w' => e = .returned (.bool true) ∧ Below W.heap.size W w' from rategoodW m n true W hml hnl (rgood_iff.2 ⟨hmm, Nat.le_trans hnm hmm, hnm⟩))
      have HQ := Lib.hid (fun W => show Calls Tryd.prog 10 #[.agg #[.int .u64 (limb m 0 : Nat), .int .u64 (limb m 1 : Nat), .int .u64 (limb m 2 : Nat), .int .u64 (limb m 3 : Nat)], .agg #[.int .u64 (limb t 0 : Nat), .int .u64 (limb t 1 : Nat), .int .u64 (limb t 2 : Nat), .int .u64 (limb t 3 : Nat)]] W fun e w' => e = .returned (.bool true) ∧ Below W.heap.size W w' from rategoodW m t true W hml ht (rgood_iff.2 ⟨hmm, htm, Nat.le_trans hts (by rw [← hm]; exact Nat.le_add_right _ _)⟩))
      clear hgm hmm
      go_upto_region 10 with (first
        | (go_at_call 10; have g5 := k8; clear g5; refine (HQ.out _).mono ?_; rintro e w9 ⟨rfl, hb9⟩; have k9 := k8.call hb9; obtain ⟨⟨ca90, ca91, ca92, ca93⟩, ca94⟩ := k9.cells (w.heap.size) s (by simp); obtain ⟨⟨cb90, cb91, cb92, cb93⟩, cb94⟩ := k9.cells (w.heap.size + 1) t (by simp); obtain ⟨⟨cc90, cc91, cc92, cc93⟩, cc94⟩ := k9.cells (w.heap.size + 1 + 1) a (by simp); clear hb9; (try unfold U))
        | (go_at_call 10; have g5 := k7; clear g5; refine (HP.out _).mono ?_; rintro e w8 ⟨rfl, hb8⟩; have k8 := k7.call hb8; obtain ⟨⟨ca80, ca81, ca82, ca83⟩, ca84⟩ := k8.cells (w5.heap.size) m (by simp); obtain ⟨⟨cb80, cb81, cb82, cb83⟩, cb84⟩ := k8.cells (w.heap.size + 1) t (by simp); clear hb8; (try unfold U))
        | (go_at_call 10; have g5 := k6; clear g5; refine (HO.out _).mono ?_; rintro e w7 ⟨rfl, hb7⟩; have k7 := k6.call hb7; obtain ⟨⟨ca70, ca71, ca72, ca73⟩, ca74⟩ := k7.cells (w5.heap.size) m (by simp); obtain ⟨⟨cb70, cb71, cb72, cb73⟩, cb74⟩ := k7.cells (w6.heap.size) n (by simp); clear hb7; (try unfold U)))
      by_cases h1 : 0 < c1
      · clear HF hs ht ha hv hg hk hsm htm hts hxm hml hnl hnm hm hn hc1
        go_wp2_with (first
          | (go_at_call 12; have g5 := k10; clear g5; refine (HL.out _ k10.l).mono ?_; rintro e w11 ⟨rfl, hb11⟩; have k11 := k10.call hb11; clear hb11)
          | (go_at_call 13; have g5 := k9; clear g5; refine (HD.out _).mono ?_; rintro e w10 ⟨rfl, hb10⟩; have k10 := k9.call hb10; clear hb10; (try unfold U)))
        go_ret
        exact ⟨rfl, k11.l⟩
      · have hat : a ≤ t := by rw [← hc1, cmpU_pos] at h1; omega
        obtain ⟨hq1, hq2, hq3⟩ := tk_sold hg hat
        obtain ⟨q, hq⟩ : ∃ q, tkv s t a = q := ⟨_, rfl⟩
        rw [hq] at hq2 hq3
        have hql : q < 2 ^ 256 := Nat.lt_of_le_of_lt hq2 hs
        obtain ⟨r, hr⟩ : ∃ r, s - q = r := ⟨_, rfl⟩
        obtain ⟨v, hvv⟩ : ∃ v, t - a = v := ⟨_, rfl⟩
        have hrl : r < 2 ^ 256 := Nat.lt_of_le_of_lt (by rw [← hr]; exact Nat.sub_le _ _) hs
        have hvl : v < 2 ^ 256 := Nat.lt_of_le_of_lt (by rw [← hvv]; exact Nat.sub_le _ _) ht
        have hrv : rgood r v = true := rgood_iff.2 ⟨Nat.le_trans (by rw [← hr]; exact Nat.sub_le _ _) hsm, Nat.le_trans (by rw [← hvv]; exact Nat.sub_le _ _) htm, by rw [← hr, ← hvv]; exact hq3⟩
        have HT := Lib.hid (fun W (hW : Below w.heap.size w W) => show Calls Tryd.prog 8 #[.agg #[.int .u64 (limb s 0 : Nat), .int .u64 (limb s 1 : Nat), .int .u64 (limb s 2 : Nat), .int .u64 (limb s 3 : Nat)], .agg #[.int .u64 (limb t 0 : Nat), .int .u64 (limb t 1 : Nat), .int .u64 (limb t 2 : Nat), .int .u64 (limb t 3 : Nat)], .agg #[.int .u64 (limb a 0 : Nat), .int .u64 (limb a 1 : Nat), .int .u64 (limb a 2 : Nat), .int .u64 (limb a 3 : Nat)]] W fun e w' => e = .returned (.tuple #[U q, .bool true]) ∧ Below W.heap.size W w' from by have h := rateTokens_walk s t a W hs ht ha (hv.below hW); rw [hq, hq1] at h; exact h)
        have HR := Lib.hid (fun W => show Calls Tryd.prog 15 #[.agg #[.int .u64 (limb s 0 : Nat), .int .u64 (limb s 1 : Nat), .int .u64 (limb s 2 : Nat), .int .u64 (limb s 3 : Nat)], .agg #[.int .u64 (limb q 0 : Nat), .int .u64 (limb q 1 : Nat), .int .u64 (limb q 2 : Nat), .int .u64 (limb q 3 : Nat)]] W fun e w' => e = .returned (.tuple #[U r, .bool true]) ∧ Below W.heap.size W w' from rsubW s q r W hs hql hq2 hr)
        have HVV := Lib.hid (fun W => show Calls Tryd.prog 15 #[.agg #[.int .u64 (limb t 0 : Nat), .int .u64 (limb t 1 : Nat), .int .u64 (limb t 2 : Nat), .int .u64 (limb t 3 : Nat)], .agg #[.int .u64 (limb a 0 : Nat), .int .u64 (limb a 1 : Nat), .int .u64 (limb a 2 : Nat), .int .u64 (limb a 3 : Nat)]] W fun e w' => e = .returned (.tuple #[U v, .bool true]) ∧ Below W.heap.size W w' from rsubW t a v W ht ha hat hvv)
        have HRV := Lib.hid (fun W => show Calls Tryd.prog 10 #[.agg #[.int .u64 (limb r 0 : Nat), .int .u64 (limb r 1 : Nat), .int .u64 (limb r 2 : Nat), .int .u64 (limb r 3 : Nat)], .agg #[.int .u64 (limb v 0 : Nat), .int .u64 (limb v 1 : Nat), .int .u64 (limb v 2 : Nat), .int .u64 (limb v 3 : Nat)]] W fun e w' => e = .returned (.bool true) ∧ Below W.heap.size W w' from rategoodW r v true W hrl hvl hrv)
        clear HF hs ht ha hv hg hk hsm htm hts hxm hml hnl hnm hm hn hc1 hat hq1 hq2 hq3 hq hql hr hvv hrl hvl hrv
        go_wp2_with (first
          | (go_at_call 12; have g5 := k14; clear g5; refine (HL.out _ k14.l).mono ?_; rintro e w15 ⟨rfl, hb15⟩; have k15 := k14.call hb15; clear hb15)
          | (go_at_call 10; have g5 := k13; clear g5; refine (HRV.out _).mono ?_; rintro e w14 ⟨rfl, hb14⟩; have k14 := k13.call hb14; clear hb14; (try unfold U))
          | (go_at_call 15; have g5 := k12; clear g5; refine (HVV.out _).mono ?_; rintro e w13 ⟨rfl, hb13⟩; have k13 := Bk.push (t := 24) v (k12.call hb13); obtain ⟨⟨ca130, ca131, ca132, ca133⟩, ca134⟩ := k13.cells (w12.heap.size) r (by simp); obtain ⟨⟨cb130, cb131, cb132, cb133⟩, cb134⟩ := k13.cells (w13.heap.size) v (by simp); clear hb13; (try unfold U))
          | (go_at_call 15; have g5 := k11; clear g5; refine (HR.out _).mono ?_; rintro e w12 ⟨rfl, hb12⟩; have k12 := Bk.push (t := 24) r (k11.call hb12); obtain ⟨⟨ca120, ca121, ca122, ca123⟩, ca124⟩ := k12.cells (w.heap.size + 1) t (by simp); obtain ⟨⟨cb120, cb121, cb122, cb123⟩, cb124⟩ := k12.cells (w.heap.size + 1 + 1) a (by simp); clear hb12; (try unfold U))
          | (go_at_call 8; have g5 := k10; clear g5; refine (HT.out _ k10.l).mono ?_; rintro e w11 ⟨rfl, hb11⟩; have k11 := Bk.push (t := 24) q (k10.call hb11); obtain ⟨⟨ca110, ca111, ca112, ca113⟩, ca114⟩ := k11.cells (w.heap.size) s (by simp); obtain ⟨⟨cb110, cb111, cb112, cb113⟩, cb114⟩ := k11.cells (w11.heap.size) q (by simp); clear hb11; (try unfold U))
          | (go_at_call 13; have g5 := k9; clear g5; refine (HD.out _).mono ?_; rintro e w10 ⟨rfl, hb10⟩; have k10 := k9.call hb10; obtain ⟨⟨ca100, ca101, ca102, ca103⟩, ca104⟩ := k10.cells (w.heap.size) s (by simp); obtain ⟨⟨cb100, cb101, cb102, cb103⟩, cb104⟩ := k10.cells (w.heap.size + 1) t (by simp); obtain ⟨⟨cc100, cc101, cc102, cc103⟩, cc104⟩ := k10.cells (w.heap.size + 1 + 1) a (by simp); clear hb10; (try unfold U)))
        go_ret
        exact ⟨rfl, k15.l⟩
set_option maxRecDepth 100000 in
set_option maxHeartbeats 4000000 in
theorem rateBack_walk (s t a : Nat) (w : World) (hs : s < 2 ^ 256) (ht : t < 2 ^ 256) (ha : a < 2 ^ 256) (hv : Vr w) : Calls Tryd.prog 5 #[U s, U t, U a] w fun e w' => e = .returned (.bool true) ∧ Below w.heap.size w w' := by
  have HL := Lib.hid (fun W (hW : Below w.heap.size w W) => lives18_walk W (hv.below hW))
  have K0 := Lib.hid (Bk.three (a := s) (b := t) (c := a) (w := w) (t1 := 24) (t2 := 24) (t3 := 24))
  have k0 := K0.out
  obtain ⟨g, hg⟩ : ∃ g, rgood s t = g := ⟨_, rfl⟩
  obtain ⟨k, hk⟩ : ∃ g, rgood a 0 = g := ⟨_, rfl⟩
  have HG := Lib.hid (fun W => show Calls Tryd.prog 10 #[.agg #[.int .u64 (limb s 0 : Nat), .int .u64 (limb s 1 : Nat), .int .u64 (limb s 2 : Nat), .int .u64 (limb s 3 : Nat)], .agg #[.int .u64 (limb t 0 : Nat), .int .u64 (limb t 1 : Nat), .int .u64 (limb t 2 : Nat), .int .u64 (limb t 3 : Nat)]] W fun e w' => e = .returned (.bool g) ∧ Below W.heap.size W w' from rategoodW s t g W hs ht hg)
  have HK := Lib.hid (fun W => show Calls Tryd.prog 10 #[.agg #[.int .u64 (limb a 0 : Nat), .int .u64 (limb a 1 : Nat), .int .u64 (limb a 2 : Nat), .int .u64 (limb a 3 : Nat)], .agg #[.int .u64 0, .int .u64 0, .int .u64 0, .int .u64 0]] W fun e w' => e = .returned (.bool k) ∧ Below W.heap.size W w' from rategood0 a k W ha hk)
  rcases (by cases g <;> cases k <;> simp : g = false ∨ g = true ∧ k = false ∨ g = true ∧ k = true) with rfl | ⟨rfl, rfl⟩ | ⟨rfl, rfl⟩
  · clear hs ht ha hv hg hk
    unfold U
    go_enter Tryd.func5, Tryd.ntmps5
    go_wp2_with (first
      | (go_at_call 12; have g5 := k1; clear g5; refine (HL.out _ k1.l).mono ?_; rintro e w2 ⟨rfl, hb2⟩; have k2 := k1.call hb2; clear hb2)
      | (go_at_call 10; have g5 := k0; clear g5; refine (HG.out _).mono ?_; rintro e w1 ⟨rfl, hb1⟩; have k1 := k0.call hb1; clear hb1; (try unfold U)))
    go_ret
    exact ⟨rfl, k2.l⟩
  · clear hs ht ha hv hg hk
    unfold U
    go_enter Tryd.func5, Tryd.ntmps5
    go_wp2_with (first
      | (go_at_call 12; have g5 := k2; clear g5; refine (HL.out _ k2.l).mono ?_; rintro e w3 ⟨rfl, hb3⟩; have k3 := k2.call hb3; clear hb3)
      | (go_at_call 10; have g5 := k1; clear g5; refine (HK.out _).mono ?_; rintro e w2 ⟨rfl, hb2⟩; have k2 := k1.call hb2; clear hb2; (try unfold U))
      | (go_at_call 10; have g5 := k0; clear g5; refine (HG.out _).mono ?_; rintro e w1 ⟨rfl, hb1⟩; have k1 := k0.call hb1; obtain ⟨⟨ca10, ca11, ca12, ca13⟩, ca14⟩ := k1.cells (w.heap.size + 1 + 1) a (by simp); clear hb1; (try unfold U)))
    go_ret
    exact ⟨rfl, k3.l⟩
  · have ham : a ≤ MOST := rgood_zero.1 hk
    obtain ⟨hsm, htm, hts⟩ := rgood_iff.1 hg
    obtain ⟨x, hx⟩ : ∃ x, shv s t a = x := ⟨_, rfl⟩
    have hsh := sh_good hg ham
    rw [hx] at hsh
    obtain ⟨hsk, hxa, hxm⟩ := hsh
    have hxl : x < 2 ^ 256 := Nat.lt_of_le_of_lt hxa ha
    obtain ⟨m, hm⟩ : ∃ m, s + a = m := ⟨_, rfl⟩
    obtain ⟨n, hn⟩ : ∃ n, t + x = n := ⟨_, rfl⟩
    have hml : m < 2 ^ 256 := by rw [← hm]; exact most_two hsm ham
    have hnm : n ≤ m := by rw [← hm, ← hn]; exact Nat.add_le_add hts hxa
    have hnl : n < 2 ^ 256 := Nat.lt_of_le_of_lt hnm hml
    have HS := Lib.hid (fun W (hW : Below w.heap.size w W) => show Calls Tryd.prog 6 #[.agg #[.int .u64 (limb s 0 : Nat), .int .u64 (limb s 1 : Nat), .int .u64 (limb s 2 : Nat), .int .u64 (limb s 3 : Nat)], .agg #[.int .u64 (limb t 0 : Nat), .int .u64 (limb t 1 : Nat), .int .u64 (limb t 2 : Nat), .int .u64 (limb t 3 : Nat)], .agg #[.int .u64 (limb a 0 : Nat), .int .u64 (limb a 1 : Nat), .int .u64 (limb a 2 : Nat), .int .u64 (limb a 3 : Nat)]] W fun e w' => e = .returned (.tuple #[U x, .bool true]) ∧ Below W.heap.size W w' from by have h := rateShares_walk s t a W hs ht ha (hv.below hW); rw [hx, hsk] at h; exact h)
    have HM := Lib.hid (fun W => show Calls Tryd.prog 14 #[.agg #[.int .u64 (limb s 0 : Nat), .int .u64 (limb s 1 : Nat), .int .u64 (limb s 2 : Nat), .int .u64 (limb s 3 : Nat)], .agg #[.int .u64 (limb a 0 : Nat), .int .u64 (limb a 1 : Nat), .int .u64 (limb a 2 : Nat), .int .u64 (limb a 3 : Nat)]] W fun e w' => e = .returned (.tuple #[U m, .bool true]) ∧ Below W.heap.size W w' from raddW s a m W hs ha hm hml)
    have HN := Lib.hid (fun W => show Calls Tryd.prog 14 #[.agg #[.int .u64 (limb t 0 : Nat), .int .u64 (limb t 1 : Nat), .int .u64 (limb t 2 : Nat), .int .u64 (limb t 3 : Nat)], .agg #[.int .u64 (limb x 0 : Nat), .int .u64 (limb x 1 : Nat), .int .u64 (limb x 2 : Nat), .int .u64 (limb x 3 : Nat)]] W fun e w' => e = .returned (.tuple #[U n, .bool true]) ∧ Below W.heap.size W w' from raddW t x n W ht hxl hn hnl)
    obtain ⟨gm, hgm⟩ : ∃ g, rgood m n = g := ⟨_, rfl⟩
    have HO := Lib.hid (fun W => show Calls Tryd.prog 10 #[.agg #[.int .u64 (limb m 0 : Nat), .int .u64 (limb m 1 : Nat), .int .u64 (limb m 2 : Nat), .int .u64 (limb m 3 : Nat)], .agg #[.int .u64 (limb n 0 : Nat), .int .u64 (limb n 1 : Nat), .int .u64 (limb n 2 : Nat), .int .u64 (limb n 3 : Nat)]] W fun e w' => e = .returned (.bool gm) ∧ Below W.heap.size W w' from rategoodW m n gm W hml hnl hgm)
    cases gm
    · have hno : rgood m 0 = false := Bool.eq_false_iff.2 fun h => Bool.false_ne_true (hgm.symm.trans (rgood_iff.2 ⟨rgood_zero.1 h, Nat.le_trans hnm (rgood_zero.1 h), hnm⟩))
      have HP := Lib.hid (fun W => show Calls Tryd.prog 10 #[.agg #[.int .u64 (limb m 0 : Nat), .int .u64 (limb m 1 : Nat), .int .u64 (limb m 2 : Nat), .int .u64 (limb m 3 : Nat)], .agg #[.int .u64 0, .int .u64 0, .int .u64 0, .int .u64 0]] W fun e w' => e = .returned (.bool false) ∧ Below W.heap.size W w' from rategood0 m false W hml hno)
      clear hs ht ha hv hg hk ham hsm htm hts hx hsk hxa hxm hxl hm hn hml hnm hnl hgm hno
      unfold U
      go_enter Tryd.func5, Tryd.ntmps5
      go_wp2_with (first
        | (go_at_call 12; have g5 := k7; clear g5; refine (HL.out _ k7.l).mono ?_; rintro e w8 ⟨rfl, hb8⟩; have k8 := k7.call hb8; clear hb8)
        | (go_at_call 10; have g5 := k6; clear g5; refine (HP.out _).mono ?_; rintro e w7 ⟨rfl, hb7⟩; have k7 := k6.call hb7; clear hb7; (try unfold U))
        | (go_at_call 10; have g5 := k5; clear g5; refine (HO.out _).mono ?_; rintro e w6 ⟨rfl, hb6⟩; have k6 := k5.call hb6; obtain ⟨⟨ca60, ca61, ca62, ca63⟩, ca64⟩ := k6.cells (w4.heap.size) m (by simp); clear hb6; (try unfold U))
        | (go_at_call 14; have g5 := k4; clear g5; refine (HN.out _).mono ?_; rintro e w5 ⟨rfl, hb5⟩; have k5 := Bk.push (t := 24) n (k4.call hb5); obtain ⟨⟨ca50, ca51, ca52, ca53⟩, ca54⟩ := k5.cells (w4.heap.size) m (by simp); obtain ⟨⟨cb50, cb51, cb52, cb53⟩, cb54⟩ := k5.cells (w5.heap.size) n (by simp); clear hb5; (try unfold U))
        | (go_at_call 14; have g5 := k3; clear g5; refine (HM.out _).mono ?_; rintro e w4 ⟨rfl, hb4⟩; have k4 := Bk.push (t := 24) m (k3.call hb4); obtain ⟨⟨ca40, ca41, ca42, ca43⟩, ca44⟩ := k4.cells (w.heap.size + 1) t (by simp); obtain ⟨⟨cb40, cb41, cb42, cb43⟩, cb44⟩ := k4.cells (w3.heap.size) x (by simp); clear hb4; (try unfold U))
        | (go_at_call 6; have g5 := k2; clear g5; refine (HS.out _ k2.l).mono ?_; rintro e w3 ⟨rfl, hb3⟩; have k3 := Bk.push (t := 24) x (k2.call hb3); obtain ⟨⟨ca30, ca31, ca32, ca33⟩, ca34⟩ := k3.cells (w.heap.size) s (by simp); obtain ⟨⟨cb30, cb31, cb32, cb33⟩, cb34⟩ := k3.cells (w.heap.size + 1 + 1) a (by simp); clear hb3; (try unfold U))
        | (go_at_call 10; have g5 := k1; clear g5; refine (HK.out _).mono ?_; rintro e w2 ⟨rfl, hb2⟩; have k2 := k1.call hb2; obtain ⟨⟨ca20, ca21, ca22, ca23⟩, ca24⟩ := k2.cells (w.heap.size) s (by simp); obtain ⟨⟨cb20, cb21, cb22, cb23⟩, cb24⟩ := k2.cells (w.heap.size + 1) t (by simp); obtain ⟨⟨cc20, cc21, cc22, cc23⟩, cc24⟩ := k2.cells (w.heap.size + 1 + 1) a (by simp); clear hb2; (try unfold U))
        | (go_at_call 10; have g5 := k0; clear g5; refine (HG.out _).mono ?_; rintro e w1 ⟨rfl, hb1⟩; have k1 := k0.call hb1; obtain ⟨⟨ca10, ca11, ca12, ca13⟩, ca14⟩ := k1.cells (w.heap.size + 1 + 1) a (by simp); clear hb1; (try unfold U)))
      go_ret
      exact ⟨rfl, k8.l⟩
    · obtain ⟨hq1, hq2⟩ := tk_back hxm ham (by rw [hm, hn]; exact hgm)
      rw [hm, hn] at hq1 hq2
      obtain ⟨q, hq⟩ : ∃ q, tkv m n x = q := ⟨_, rfl⟩
      rw [hq] at hq2
      have hql : q < 2 ^ 256 := Nat.lt_of_le_of_lt hq2 ha
      obtain ⟨c, hc⟩ : ∃ c, cmpU q a = c := ⟨_, rfl⟩
      have q0 : c ≤ 0 := by rw [← hc, cmpU_le]; exact hq2
      have HT := Lib.hid (fun W (hW : Below w.heap.size w W) => show Calls Tryd.prog 8 #[.agg #[.int .u64 (limb m 0 : Nat), .int .u64 (limb m 1 : Nat), .int .u64 (limb m 2 : Nat), .int .u64 (limb m 3 : Nat)], .agg #[.int .u64 (limb n 0 : Nat), .int .u64 (limb n 1 : Nat), .int .u64 (limb n 2 : Nat), .int .u64 (limb n 3 : Nat)], .agg #[.int .u64 (limb x 0 : Nat), .int .u64 (limb x 1 : Nat), .int .u64 (limb x 2 : Nat), .int .u64 (limb x 3 : Nat)]] W fun e w' => e = .returned (.tuple #[U q, .bool true]) ∧ Below W.heap.size W w' from by have h := rateTokens_walk m n x W hml hnl hxl (hv.below hW); rw [hq, hq1] at h; exact h)
      have HC := Lib.hid (fun W => show Calls Tryd.prog 13 #[.agg #[.int .u64 (limb q 0 : Nat), .int .u64 (limb q 1 : Nat), .int .u64 (limb q 2 : Nat), .int .u64 (limb q 3 : Nat)], .agg #[.int .u64 (limb a 0 : Nat), .int .u64 (limb a 1 : Nat), .int .u64 (limb a 2 : Nat), .int .u64 (limb a 3 : Nat)]] W fun e w' => e = .returned (.int .i64 c) ∧ Below W.heap.size W w' from rcmpW_v q a c W hql ha hc)
      clear hs ht ha hv hg hk ham hsm htm hts hx hsk hxa hxm hxl hm hn hml hnm hnl hgm hq1 hq2 hq hql hc
      unfold U
      go_enter Tryd.func5, Tryd.ntmps5
      go_wp2_with (first
        | (go_at_call 12; have g5 := k8; clear g5; refine (HL.out _ k8.l).mono ?_; rintro e w9 ⟨rfl, hb9⟩; have k9 := k8.call hb9; clear hb9)
        | (go_at_call 13; have g5 := k7; clear g5; refine (HC.out _).mono ?_; rintro e w8 ⟨rfl, hb8⟩; have k8 := k7.call hb8; clear hb8; (try unfold U))
        | (go_at_call 8; have g5 := k6; clear g5; refine (HT.out _ k6.l).mono ?_; rintro e w7 ⟨rfl, hb7⟩; have k7 := Bk.push (t := 24) q (k6.call hb7); obtain ⟨⟨ca70, ca71, ca72, ca73⟩, ca74⟩ := k7.cells (w7.heap.size) q (by simp); obtain ⟨⟨cb70, cb71, cb72, cb73⟩, cb74⟩ := k7.cells (w.heap.size + 1 + 1) a (by simp); clear hb7; (try unfold U))
        | (go_at_call 10; have g5 := k5; clear g5; refine (HO.out _).mono ?_; rintro e w6 ⟨rfl, hb6⟩; have k6 := k5.call hb6; obtain ⟨⟨ca60, ca61, ca62, ca63⟩, ca64⟩ := k6.cells (w4.heap.size) m (by simp); obtain ⟨⟨cb60, cb61, cb62, cb63⟩, cb64⟩ := k6.cells (w5.heap.size) n (by simp); obtain ⟨⟨cc60, cc61, cc62, cc63⟩, cc64⟩ := k6.cells (w3.heap.size) x (by simp); clear hb6; (try unfold U))
        | (go_at_call 14; have g5 := k4; clear g5; refine (HN.out _).mono ?_; rintro e w5 ⟨rfl, hb5⟩; have k5 := Bk.push (t := 24) n (k4.call hb5); obtain ⟨⟨ca50, ca51, ca52, ca53⟩, ca54⟩ := k5.cells (w4.heap.size) m (by simp); obtain ⟨⟨cb50, cb51, cb52, cb53⟩, cb54⟩ := k5.cells (w5.heap.size) n (by simp); clear hb5; (try unfold U))
        | (go_at_call 14; have g5 := k3; clear g5; refine (HM.out _).mono ?_; rintro e w4 ⟨rfl, hb4⟩; have k4 := Bk.push (t := 24) m (k3.call hb4); obtain ⟨⟨ca40, ca41, ca42, ca43⟩, ca44⟩ := k4.cells (w.heap.size + 1) t (by simp); obtain ⟨⟨cb40, cb41, cb42, cb43⟩, cb44⟩ := k4.cells (w3.heap.size) x (by simp); clear hb4; (try unfold U))
        | (go_at_call 6; have g5 := k2; clear g5; refine (HS.out _ k2.l).mono ?_; rintro e w3 ⟨rfl, hb3⟩; have k3 := Bk.push (t := 24) x (k2.call hb3); obtain ⟨⟨ca30, ca31, ca32, ca33⟩, ca34⟩ := k3.cells (w.heap.size) s (by simp); obtain ⟨⟨cb30, cb31, cb32, cb33⟩, cb34⟩ := k3.cells (w.heap.size + 1 + 1) a (by simp); clear hb3; (try unfold U))
        | (go_at_call 10; have g5 := k1; clear g5; refine (HK.out _).mono ?_; rintro e w2 ⟨rfl, hb2⟩; have k2 := k1.call hb2; obtain ⟨⟨ca20, ca21, ca22, ca23⟩, ca24⟩ := k2.cells (w.heap.size) s (by simp); obtain ⟨⟨cb20, cb21, cb22, cb23⟩, cb24⟩ := k2.cells (w.heap.size + 1) t (by simp); obtain ⟨⟨cc20, cc21, cc22, cc23⟩, cc24⟩ := k2.cells (w.heap.size + 1 + 1) a (by simp); clear hb2; (try unfold U))
        | (go_at_call 10; have g5 := k0; clear g5; refine (HG.out _).mono ?_; rintro e w1 ⟨rfl, hb1⟩; have k1 := k0.call hb1; obtain ⟨⟨ca10, ca11, ca12, ca13⟩, ca14⟩ := k1.cells (w.heap.size + 1 + 1) a (by simp); clear hb1; (try unfold U)))
      go_ret
      exact ⟨rfl, k9.l⟩
end Go.Proofs.YtomhbggfdjooaaaDoor
