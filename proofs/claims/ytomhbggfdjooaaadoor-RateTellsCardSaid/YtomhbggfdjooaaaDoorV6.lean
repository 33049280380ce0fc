/- The laws of layer 18, walked. -/
import Derived.Test.YtomhbggfdjooaaaDoorVR
namespace Go.Proofs.YtomhbggfdjooaaaDoor
open Go.RowKit Go.Sort

set_option maxRecDepth 100000 in
set_option maxHeartbeats 4000000 in
theorem rateTells_walk (s t a : Nat) (w : World) (hs : s < 2 ^ 256) (ht : t < 2 ^ 256) (ha : a < 2 ^ 256) (hv : Vr w) : Calls Tryd.prog 3 #[U s, U t, U a] w fun e w' => e = .returned (.bool true) ∧ Below w.heap.size w w' := by
  obtain ⟨x, hx⟩ : ∃ x, x = shv s t a := ⟨_, rfl⟩
  obtain ⟨ok, hok⟩ : ∃ x, x = shk s t a := ⟨_, rfl⟩
  obtain ⟨p, hp⟩ : ∃ x, x = tkv s t a := ⟨_, rfl⟩
  obtain ⟨may, hmay⟩ : ∃ x, x = tkk s t a := ⟨_, rfl⟩
  obtain ⟨gd, hgd⟩ : ∃ x, x = rgood s t := ⟨_, rfl⟩
  have hxl : x < 2 ^ 256 := by rw [hx]; exact shv_lt _ _ _
  have hpl : p < 2 ^ 256 := by rw [hp]; exact tkv_lt _ _ _
  have heqx : ∀ w, (Op.equalIn 10000 24 (.agg #[.int .u64 (limb x 0 : Nat), .int .u64 (limb x 1 : Nat), .int .u64 (limb x 2 : Nat), .int .u64 (limb x 3 : Nat)]) (.agg #[.int .u64 (limb x 0 : Nat), .int .u64 (limb x 1 : Nat), .int .u64 (limb x 2 : Nat), .int .u64 (limb x 3 : Nat)])).run Tryd.prog w = .ok true w := fun w => by rw [eq_run hxl hxl, decide_eq_true rfl]
  have heqp : ∀ w, (Op.equalIn 10000 24 (.agg #[.int .u64 (limb p 0 : Nat), .int .u64 (limb p 1 : Nat), .int .u64 (limb p 2 : Nat), .int .u64 (limb p 3 : Nat)]) (.agg #[.int .u64 (limb p 0 : Nat), .int .u64 (limb p 1 : Nat), .int .u64 (limb p 2 : Nat), .int .u64 (limb p 3 : Nat)])).run Tryd.prog w = .ok true w := fun w => by rw [eq_run hpl hpl, decide_eq_true rfl]
  have HA := Lib.hid (fun W (hW : Below w.heap.size w W) => show Calls Tryd.prog 6 #[.agg #[.int .u64 (limb s 0 : Nat), .int .u64 (limb s 1 : Nat), .int .u64 (limb s 2 : Nat), .int .u64 (limb s 3 : Nat)], .agg #[.int .u64 (limb t 0 : Nat), .int .u64 (limb t 1 : Nat), .int .u64 (limb t 2 : Nat), .int .u64 (limb t 3 : Nat)], .agg #[.int .u64 (limb a 0 : Nat), .int .u64 (limb a 1 : Nat), .int .u64 (limb a 2 : Nat), .int .u64 (limb a 3 : Nat)]] W fun e w' => e = .returned (.tuple #[U x, .bool ok]) ∧ Below W.heap.size W w' from by rw [hx, hok]; exact rateShares_walk s t a W hs ht ha (hv.below hW))
  have HB := Lib.hid (fun W => show Calls Tryd.prog 7 #[.agg #[.int .u64 (limb s 0 : Nat), .int .u64 (limb s 1 : Nat), .int .u64 (limb s 2 : Nat), .int .u64 (limb s 3 : Nat)], .agg #[.int .u64 (limb t 0 : Nat), .int .u64 (limb t 1 : Nat), .int .u64 (limb t 2 : Nat), .int .u64 (limb t 3 : Nat)], .agg #[.int .u64 (limb a 0 : Nat), .int .u64 (limb a 1 : Nat), .int .u64 (limb a 2 : Nat), .int .u64 (limb a 3 : Nat)]] W fun e w' => e = .returned (.tuple #[U x, .bool ok]) ∧ Below W.heap.size W w' from by rw [hx, hok]; exact refShares_walk s t a W hs ht ha)
  have HC := Lib.hid (fun W (hW : Below w.heap.size w W) => show Calls Tryd.prog 8 #[.agg #[.int .u64 (limb s 0 : Nat), .int .u64 (limb s 1 : Nat), .int .u64 (limb s 2 : Nat), .int .u64 (limb s 3 : Nat)], .agg #[.int .u64 (limb t 0 : Nat), .int .u64 (limb t 1 : Nat), .int .u64 (limb t 2 : Nat), .int .u64 (limb t 3 : Nat)], .agg #[.int .u64 (limb a 0 : Nat), .int .u64 (limb a 1 : Nat), .int .u64 (limb a 2 : Nat), .int .u64 (limb a 3 : Nat)]] W fun e w' => e = .returned (.tuple #[U p, .bool may]) ∧ Below W.heap.size W w' from by rw [hp, hmay]; exact rateTokens_walk s t a W hs ht ha (hv.below hW))
  have HD := Lib.hid (fun W => show Calls Tryd.prog 9 #[.agg #[.int .u64 (limb s 0 : Nat), .int .u64 (limb s 1 : Nat), .int .u64 (limb s 2 : Nat), .int .u64 (limb s 3 : Nat)], .agg #[.int .u64 (limb t 0 : Nat), .int .u64 (limb t 1 : Nat), .int .u64 (limb t 2 : Nat), .int .u64 (limb t 3 : Nat)], .agg #[.int .u64 (limb a 0 : Nat), .int .u64 (limb a 1 : Nat), .int .u64 (limb a 2 : Nat), .int .u64 (limb a 3 : Nat)]] W fun e w' => e = .returned (.tuple #[U p, .bool may]) ∧ Below W.heap.size W w' from by rw [hp, hmay]; exact refTokens_walk s t a W hs ht ha)
  have HE := Lib.hid (fun W => show Calls Tryd.prog 10 #[.agg #[.int .u64 (limb s 0 : Nat), .int .u64 (limb s 1 : Nat), .int .u64 (limb s 2 : Nat), .int .u64 (limb s 3 : Nat)], .agg #[.int .u64 (limb t 0 : Nat), .int .u64 (limb t 1 : Nat), .int .u64 (limb t 2 : Nat), .int .u64 (limb t 3 : Nat)]] W fun e w' => e = .returned (.bool gd) ∧ Below W.heap.size W w' from by rw [hgd]; exact rateGood_walk s t W hs ht)
  have HF := Lib.hid (fun W => show Calls Tryd.prog 11 #[.agg #[.int .u64 (limb s 0 : Nat), .int .u64 (limb s 1 : Nat), .int .u64 (limb s 2 : Nat), .int .u64 (limb s 3 : Nat)], .agg #[.int .u64 (limb t 0 : Nat), .int .u64 (limb t 1 : Nat), .int .u64 (limb t 2 : Nat), .int .u64 (limb t 3 : Nat)]] W fun e w' => e = .returned (.bool gd) ∧ Below W.heap.size W w' from by rw [hgd]; exact refGood_walk s t W hs ht)
  have HL := Lib.hid (fun W (hW : Below w.heap.size w W) => lives18_walk W (hv.below hW))
  have K0 := Lib.hid (Bk.three (a := s) (b := t) (c := a) (w := w) (t1 := 24) (t2 := 24) (t3 := 24))
  clear hx hok hp hmay hgd hs ht ha hv hxl hpl
  have k0 := K0.out
  unfold U
  go_enter Tryd.func3, Tryd.ntmps3
  go_upto_region 5 with (first
    | (go_at_call 9; have g5 := k3; clear g5; refine (HD.out _).mono ?_; rintro e w4 ⟨rfl, hb4⟩; have k4 := Bk.push (t := 24) p (k3.call hb4); clear hb4; unfold U)
    | (go_at_call 8; have g5 := k2; clear g5; refine (HC.out _ k2.l).mono ?_; rintro e w3 ⟨rfl, hb3⟩; have k3 := Bk.push (t := 24) p (k2.call hb3); obtain ⟨⟨ca30, ca31, ca32, ca33⟩, ca34⟩ := k3.cells (w.heap.size) s (by simp); obtain ⟨⟨cb30, cb31, cb32, cb33⟩, cb34⟩ := k3.cells (w.heap.size + 1) t (by simp); obtain ⟨⟨cc30, cc31, cc32, cc33⟩, cc34⟩ := k3.cells (w.heap.size + 1 + 1) a (by simp); clear hb3; unfold U)
    | (go_at_call 7; have g5 := k1; clear g5; refine (HB.out _).mono ?_; rintro e w2 ⟨rfl, hb2⟩; have k2 := Bk.push (t := 24) x (k1.call hb2); obtain ⟨⟨ca20, ca21, ca22, ca23⟩, ca24⟩ := k2.cells (w.heap.size) s (by simp); obtain ⟨⟨cb20, cb21, cb22, cb23⟩, cb24⟩ := k2.cells (w.heap.size + 1) t (by simp); obtain ⟨⟨cc20, cc21, cc22, cc23⟩, cc24⟩ := k2.cells (w.heap.size + 1 + 1) a (by simp); clear hb2; unfold U)
    | (go_at_call 6; have g5 := k0; clear g5; refine (HA.out _ k0.l).mono ?_; rintro e w1 ⟨rfl, hb1⟩; have k1 := Bk.push (t := 24) x (k0.call hb1); obtain ⟨⟨ca10, ca11, ca12, ca13⟩, ca14⟩ := k1.cells (w.heap.size) s (by simp); obtain ⟨⟨cb10, cb11, cb12, cb13⟩, cb14⟩ := k1.cells (w.heap.size + 1) t (by simp); obtain ⟨⟨cc10, cc11, cc12, cc13⟩, cc14⟩ := k1.cells (w.heap.size + 1 + 1) a (by simp); clear hb1; unfold U))
  obtain ⟨W, hW⟩ : ∃ W, W = w4.alloc (.cells #[.int .u64 (limb p 0 : Nat), .int .u64 (limb p 1 : Nat), .int .u64 (limb p 2 : Nat), .int .u64 (limb p 3 : Nat)] 24) := ⟨_, rfl⟩
  rw [← hW] at k4 ⊢
  clear hW
  obtain ⟨a0, a1, a2, a3⟩ := (k4.b (w1.heap.size, x) (by simp)).a.grow4
  obtain ⟨b0, b1, b2, b3⟩ := (k4.b (w2.heap.size, x) (by simp)).a.grow4
  obtain ⟨c0, c1, c2, c3⟩ := (k4.b (w3.heap.size, p) (by simp)).a.grow4
  obtain ⟨d0, d1, d2, d3⟩ := (k4.b (w4.heap.size, p) (by simp)).a.grow4
  obtain ⟨e0, e1, e2, e3⟩ := (k4.b (w.heap.size, s) (by simp)).a.grow4
  obtain ⟨f0, f1, f2, f3⟩ := (k4.b (w.heap.size + 1, t) (by simp)).a.grow4
  have K4 := Lib.hid k4
  have Hfin : Hid (∀ dq osq, Below w.heap.size w (grow (redrawn W dq) osq)) := Lib.hid fun dq osq => K4.out.l.trans ((below_regrown W dq osq).mono K4.out.l.size)
  clear k1 k2 k3 k4 k0
  refine wp_region_quiet_below (by kernel_rfl) (by kernel_rfl) ?_
  repeat (quiet_step (first | (go_at_call 10; with_reducible exact Calls.regrown_of (HE.out _)) | (go_at_call 11; with_reducible exact Calls.regrown_of (HF.out _)) | (go_at_call 12; with_reducible exact Calls.regrown_of (HL.out _ (Hfin.out _ _)))))
  refine wpQuiet_nil ?_
  intro _ hw'
  obtain ⟨⟨dq, osq⟩, hw''⟩ := hw'
  subst hw''
  go_wp2
  go_ret
  exact ⟨rfl, Hfin.out _ _⟩

end Go.Proofs.YtomhbggfdjooaaaDoor
