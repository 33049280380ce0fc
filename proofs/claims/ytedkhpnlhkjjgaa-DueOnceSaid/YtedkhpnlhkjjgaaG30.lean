/- history: At, Last, List on a dead store; lives of layer 11. -/
import Derived.Test.YtedkhpnlhkjjgaaG29
import Derived.Test.YtedkhpnlhkjjgaaG20
import Derived.Test.YtedkhpnlhkjjgaaG00
import Derived.Deep.Slices
namespace Go.Proofs.Ytedkhpnlhkjjgaa
open Go.RowKit Go.Maps Go.Sort

theorem hat_dead (P : Option Addr) (t : Int) (A : Option Addr) (n c : Nat) (f : Nat → Int) (blk : Int) (w : World) (h : SDead w (.pointer P)) (hl : Il w A n f) (hz : A = none → n = 0 ∧ c = 0) (hn : n ≤ 20) :
    Calls Try.prog 15 #[.pointer P, .int .i64 t, .slice A n c, .int .i64 blk] w fun e w' => e = .returned (.tuple #[U 0, .bool false]) ∧ Below w.heap.size w w' :=
  hat_walk P t A n c f blk 0 (fun _ => 0) (fun _ => 0) (fun _ => false) w hl hz hn (by omega) (fun W hb => hlen_dead P t A n c f W (h.below hb) (hl.below hb) hn) (fun k h1 h2 => reads_dead P t A n c f k w h (by omega)) 0 rfl
set_option maxRecDepth 100000 in
set_option maxHeartbeats 2000000 in
theorem hlast_walk (P : Option Addr) (t : Int) (A : Option Addr) (n c : Nat) (f : Nat → Int) (m : Nat) (x : Int) (a : Nat) (o : Bool) (w : World) (hl : Il w A n f) (hz : A = none → n = 0 ∧ c = 0) (hn : n ≤ 20) (hm : m ≤ 1099511627776)
    (HL : ∀ W, Below w.heap.size w W → Calls Try.prog 17 #[.pointer P, .int .i64 t, .slice A n c] W fun e w' => e = .returned (.int .i64 (m : Nat)) ∧ Below W.heap.size W w')
    (HR : Reads w P t A n c f ((m : Int) - 1) x a o) :
    Calls Try.prog 101 #[.pointer P, .int .i64 t, .slice A n c] w fun e w' => e = .returned (.tuple #[U a, .bool o]) ∧ Below w.heap.size w w' := by
  have HRd := Lib.hid (fun w => reader_walk P t A n c w)
  have HLn := Lib.hid HL
  have HRs := Lib.hid (fun (b1 : Nat) (W1 : World) (hb : Below w.heap.size w W1) (hA : HisAt W1 b1 P t A n c f) => HR b1 W1 hb hA)
  have HI := Lib.hid (And.intro hl (And.intro hz hn))
  have hb0 := (Below.refl w.heap.size w).alloc (Nat.le_refl _) (.cells #[.int .u64 0, .int .u64 0, .int .u64 0, .int .u64 0] 29)
  have r0 := heap_alloc_new w (.cells #[.int .u64 0, .int .u64 0, .int .u64 0, .int .u64 0] 29)
  have H0 := Lib.hid (And.intro hb0 r0)
  have mI : (m : Int) ≤ 1099511627776 := by omega
  clear HL HR hl hz hn hm hb0 r0
  rw [show U a = .agg #[.int .u64 (limb a 0 : Nat), .int .u64 (limb a 1 : Nat), .int .u64 (limb a 2 : Nat), .int .u64 (limb a 3 : Nat)] from rfl]
  go_enter Try.func101, Try.ntmps101
  go_wp2_with (first
    | (go_at_call 112; have g5 := H2; clear g5; with_reducible refine (HRs.out _ _ H2.out.1 H2.out.2.1).mono ?_; rintro e w3 ⟨rfl, hb3⟩; have r3 := (hb3.block w.heap.size (hp_lt H2.out.2.2)).trans H2.out.2.2; have H3 := Lib.hid (And.intro (H2.out.1.trans (hb3.mono H2.out.1.size)) r3); unfold hisV U; have hbx := (Below.refl w3.heap.size w3).alloc (Nat.le_refl _) (.cells #[.int .u64 (limb a 0 : Nat), .int .u64 (limb a 1 : Nat), .int .u64 (limb a 2 : Nat), .int .u64 (limb a 3 : Nat)] 29); have rx := (hbx.block w.heap.size (hp_lt r3)).trans r3; have HX := Lib.hid hbx; have RX := Lib.hid rx; have d0 := (hp_cell (i := 0) rx).trans rfl; have d1 := (hp_cell (i := 1) rx).trans rfl; have d2 := (hp_cell (i := 2) rx).trans rfl; have d3 := (hp_cell (i := 3) rx).trans rfl; have g0 := hp_free (i := 0) rx; have g1 := hp_free (i := 1) rx; have g2 := hp_free (i := 2) rx; have g3 := hp_free (i := 3) rx; clear hb3 r3 hbx rx)
    | (go_at_call 17; refine (HLn.out w1 H1.out.1).mono ?_; rintro e w2 ⟨rfl, hb2⟩; have H2 := Lib.hid (And.intro (H1.out.1.trans (hb2.mono H1.out.1.size)) (And.intro (H1.out.2.1.below hb2) ((hb2.block _ (hp_lt H1.out.2.2)).trans H1.out.2.2))); clear hb2)
    | (go_at_call 62; refine (HRd.out _).mono ?_; rintro e w1 ⟨rfl, hb1, hc0, hc1, hc2, hlt⟩; rw [World.size_alloc] at hc0 hc1 hc2 hlt; have hbx := H0.out.1.trans (hb1.mono H0.out.1.size); have H1 := Lib.hid (And.intro hbx (And.intro (show HisAt w1 (w.heap.size + 1) P t A n c f from ⟨hc0, hc1, hc2, hlt, HI.out.1.below hbx, HI.out.2.1, HI.out.2.2⟩) ((hb1.block w.heap.size (by simp)).trans H0.out.2))); clear hb1 hc0 hc1 hc2 hlt hbx))
  obtain ⟨e0, e1, e2, e3⟩ := ((arr_zero RX.out).put4 (n := a)).cells4
  refine bodyPost_ret (v := .tuple #[.agg #[.int .u64 (limb a 0 : Nat), .int .u64 (limb a 1 : Nat), .int .u64 (limb a 2 : Nat), .int .u64 (limb a 3 : Nat)], .bool o]) (by simp [results, Try.results101, go_sem, e0, e1, e2, e3]) rfl ⟨rfl, ?_⟩
  exact below_set4 (H3.out.1.trans (HX.out.mono H3.out.1.size)) (Nat.le_refl _)
theorem hlast_dead (P : Option Addr) (t : Int) (A : Option Addr) (n c : Nat) (f : Nat → Int) (w : World) (h : SDead w (.pointer P)) (hl : Il w A n f) (hz : A = none → n = 0 ∧ c = 0) (hn : n ≤ 20) :
    Calls Try.prog 101 #[.pointer P, .int .i64 t, .slice A n c] w fun e w' => e = .returned (.tuple #[U 0, .bool false]) ∧ Below w.heap.size w w' :=
  hlast_walk P t A n c f 0 0 0 false w hl hz hn (by omega) (fun W hb => hlen_dead P t A n c f W (h.below hb) (hl.below hb) hn) (reads_dead P t A n c f _ w h (by decide))
set_option maxRecDepth 100000 in
set_option maxHeartbeats 1000000 in
theorem hlist_dead (P : Option Addr) (t : Int) (A : Option Addr) (n c : Nat) (f : Nat → Int) (w : World) (h : SDead w (.pointer P)) (hl : Il w A n f) (hn : n ≤ 20) :
    Calls Try.prog 16 #[.pointer P, .int .i64 t, .slice A n c] w fun e w' => e = .returned (.tuple #[.slice none 0 0, .slice none 0 0]) ∧ Below w.heap.size w w' := by
  have HRd := Lib.hid (fun w => reader_walk P t A n c w)
  have HLn := Lib.hid (fun (W : World) (hb : Below w.heap.size w W) => hlen_dead P t A n c f W (h.below hb) (hl.below hb) hn)
  clear h hl hn
  go_enter Try.func16, Try.ntmps16
  go_wp2_with (first
    | (go_at_call 17; refine (HLn.out w1 H1.out).mono ?_; rintro e w2 ⟨rfl, hb2⟩; have H2 := Lib.hid (H1.out.trans (hb2.mono H1.out.size)); clear hb2)
    | (go_at_call 62; refine (HRd.out _).mono ?_; rintro e w1 ⟨rfl, hb1, _⟩; have H1 := Lib.hid hb1; clear hb1))
  go_loopw [8, 9, 23] (fun v8 v9 i wr => v8 = .slice none 0 0 ∧ v9 = .slice none 0 0 ∧ i = .int .i64 0 ∧ w2 = wr) (fun _ _ _ _ => 0)
  case atStart => exact ⟨rfl, rfl, rfl, rfl⟩
  case round =>
    obtain ⟨rfl, rfl, rfl, rfl⟩ := hrel
    go_wp2
    go_ret2
    exact ⟨rfl, H2.out⟩
/-! ### the document's example -/
def K13 : ByteArray := ⟨#[13]⟩
def K130 : ByteArray := ⟨#[13, 0, 0, 0, 0, 0, 0, 0, 0]⟩
def K131 : ByteArray := ⟨#[13, 0, 0, 0, 0, 0, 0, 0, 1]⟩
theorem key13 : keyStr 13 (fun _ => 0) 0 = K13 := by decide +kernel
theorem key130 : keyStr 13 (icat (fun _ => 0) 0 fun _ => ((0 : Nat) : Int)) (0 + 1) = K130 := by decide +kernel
theorem key131 : keyStr 13 (icat (fun _ => 0) 0 fun _ => ((1 : Nat) : Int)) (0 + 1) = K131 := by decide +kernel
theorem key13m : keyStr 13 (icat (fun _ => 0) 0 fun _ => ((0 : Nat) : Int) - 1) (0 + 1) = ⟨#[]⟩ := by decide +kernel
def LH1 : SL := setL (setL [] K13 (numStr (((0 : Nat) : Int) + 1))) K130 (numStr ((5 : Nat) : Int) ++ amtStr 10)
def LH2 : SL := setL (setL LH1 K13 (numStr (((1 : Nat) : Int) + 1))) K131 (numStr ((7 : Nat) : Int) ++ amtStr 20)
theorem LH1a : intAt LH1 K13 1 := .inr (by decide +kernel)
theorem LH1b : sget LH1 K130 = some (hpV 5 10) := by decide +kernel
theorem LH2a : intAt LH2 K13 2 := .inr (by decide +kernel)
theorem LH2b : sget LH2 K130 = some (hpV 5 10) := by decide +kernel
theorem LH2c : sget LH2 K131 = some (hpV 7 20) := by decide +kernel
theorem LH2d : sget LH2 ⟨#[]⟩ = none := by decide +kernel
def rx11 (k : Int) : Int := if k = 0 then 5 else if k = 1 then 7 else 0
def ra11 (k : Int) : Nat := if k = 0 then 10 else if k = 1 then 20 else 0
def ro11 (k : Int) : Bool := decide (k = 0 ∨ k = 1)
theorem reads11 {w W : World} {b : Nat} {F : List Nat} {q : Nat} {qs : List Value} (h : SNew w W b F LH2 q qs) (k : Int) (h1 : -1 ≤ k) (h2 : k < ((2 : Nat) : Int)) : Reads W (some ⟨b, 0, none⟩) 13 none 0 0 (fun _ => 0) k (rx11 k) (ra11 k) (ro11 k) := by
  rcases (by omega : k = -1 ∨ k = 0 ∨ k = 1) with rfl | rfl | rfl
  · exact reads_none h 13 none 0 0 (fun _ => 0) (-1) ⟨#[]⟩ key13m (by decide) (by decide) LH2d
  · exact reads_some h 13 none 0 0 (fun _ => 0) 0 K130 key130 5 10 (by decide) (by decide) (by decide) (by decide) LH2b
  · exact reads_some h 13 none 0 0 (fun _ => 0) 1 K131 key131 7 20 (by decide) (by decide) (by decide) (by decide) LH2c
theorem il_nil (w : World) : Il w none 0 (fun _ => 0) := ⟨fun _ => by decide, fun h => absurd h (by omega)⟩
theorem hat11 {w W : World} {b : Nat} {F : List Nat} {q : Nat} {qs : List Value} (h : SNew w W b F LH2 q qs) (blk : Int) (Z : Nat) (hZ : hbs rx11 ro11 blk 2 0 2 = Z) (a : Nat) (o : Bool) (v0 : Int) (ha : ra11 ((Z : Int) - 1) = a) (ho : ro11 ((Z : Int) - 1) = o) (hv : U a = .agg #[.int .u64 v0, .int .u64 0, .int .u64 0, .int .u64 0]) :
    Calls Try.prog 15 #[.pointer (some ⟨b, 0, none⟩), .int .i64 13, .slice none 0 0, .int .i64 blk] W fun e W' => e = .returned (.tuple #[.agg #[.int .u64 v0, .int .u64 0, .int .u64 0, .int .u64 0], .bool o]) ∧ Below W.heap.size W W' := by
  have := hat_walk (some ⟨b, 0, none⟩) 13 none 0 0 (fun _ => 0) blk 2 rx11 ra11 ro11 W (il_nil W) (fun _ => ⟨rfl, rfl⟩) (by omega) (by omega) (fun W1 hb => hlen_live (h.below hb) 13 none 0 0 (fun _ => 0) (il_nil W1) (by omega) K13 key13 (by decide) 2 LH2a (by decide)) (fun k h1 h2 => reads11 h k h1 h2) Z hZ
  rw [ha, ho, hv] at this
  exact this
theorem u10 : U 10 = .agg #[.int .u64 10, .int .u64 0, .int .u64 0, .int .u64 0] := by unfold U; rw [show limb 10 0 = 10 by decide, show limb 10 1 = 0 by decide, show limb 10 2 = 0 by decide, show limb 10 3 = 0 by decide]; rfl
theorem u20 : U 20 = .agg #[.int .u64 20, .int .u64 0, .int .u64 0, .int .u64 0] := by unfold U; rw [show limb 20 0 = 20 by decide, show limb 20 1 = 0 by decide, show limb 20 2 = 0 by decide, show limb 20 3 = 0 by decide]; rfl
set_option maxRecDepth 100000 in
set_option maxHeartbeats 4000000 in
theorem lives11_walk (w : World) : Calls Try.prog 12 #[] w fun e w' => e = .returned (.bool true) ∧ Below w.heap.size w w' := by
  have D1 := Lib.hid (fun (W W1 : World) (b : Nat) (F : List Nat) (hl : LiveTo w W W1 b F [] 0) => show Calls Try.prog 14 #[.pointer (some ⟨b, 0, none⟩), .int .i64 13, .slice none 0 0, .int .i64 5, .agg #[.int .u64 10, .int .u64 0, .int .u64 0, .int .u64 0]] W1 fun e W2 => e = .returned (.int .i64 0) ∧ LiveTo w W W2 b F LH1 2 from by
    have := hl.seq 2 (fun F1 qa qsa hs hqa => hpush_more hs 13 none 0 0 (fun _ => 0) (fun W' _ => il_nil W') (fun _ => ⟨rfl, rfl⟩) (by omega) 5 10 (by decide) (by omega) 0 (by omega) 0 0 false (reads_none hs 13 none 0 0 (fun _ => 0) _ ⟨#[]⟩ key13m (by decide) (by decide) rfl) (.inl rfl) K13 K130 key13 key130 (by decide) (by decide) (by decide) (by decide) (.inl ⟨rfl, rfl⟩) (by decide) (by decide +kernel) (by omega))
    rw [u10] at this
    exact this)
  have D2 := Lib.hid (fun (W W1 : World) (b : Nat) (F : List Nat) (hl : LiveTo w W W1 b F LH1 2) => show Calls Try.prog 14 #[.pointer (some ⟨b, 0, none⟩), .int .i64 13, .slice none 0 0, .int .i64 7, .agg #[.int .u64 20, .int .u64 0, .int .u64 0, .int .u64 0]] W1 fun e W2 => e = .returned (.int .i64 0) ∧ LiveTo w W W2 b F LH2 4 from by
    have := hl.seq 2 (fun F1 qa qsa hs hqa => hpush_more hs 13 none 0 0 (fun _ => 0) (fun W' _ => il_nil W') (fun _ => ⟨rfl, rfl⟩) (by omega) 7 20 (by decide) (by omega) 1 (by omega) 5 10 true (reads_some hs 13 none 0 0 (fun _ => 0) _ K130 key130 5 10 (by decide) (by decide) (by decide) (by decide) LH1b) (.inr ⟨by decide, by decide, by decide⟩) K13 K131 key13 key131 (by decide) (by decide) (by decide) (by decide) LH1a (by decide +kernel) (by decide +kernel) (by omega))
    rw [u20] at this
    exact this)
  have D6 := Lib.hid (fun (W W1 : World) (b : Nat) (F : List Nat) (hl : LiveTo w W W1 b F LH2 4) => hl.read (fun F1 qa qsa hs hqa => hat11 hs 6 1 (by decide) 10 true 10 rfl (by decide) u10))
  have D7 := Lib.hid (fun (W W1 : World) (b : Nat) (F : List Nat) (hl : LiveTo w W W1 b F LH2 4) => hl.read (fun F1 qa qsa hs hqa => hat11 hs 7 2 (by decide) 20 true 20 rfl (by decide) u20))
  have D4 := Lib.hid (fun (W W1 : World) (b : Nat) (F : List Nat) (hl : LiveTo w W W1 b F LH2 4) => hl.read (fun F1 qa qsa hs hqa => hat11 hs 4 0 (by decide) 0 false 0 rfl (by decide) U_zero))
  obtain ⟨r1, e1⟩ : ∃ x, x = LH1 := ⟨_, rfl⟩
  obtain ⟨r2, e2⟩ : ∃ x, x = LH2 := ⟨_, rfl⟩
  rw [← e1] at D1 D2
  rw [← e2] at D2 D6 D7 D4
  clear e1 e2
  have q10 := fun w => eqU 10 0 0 0 10 0 0 0 w
  have q20 := fun w => eqU 20 0 0 0 20 0 0 0 w
  go_enter Try.func12, Try.ntmps12
  go_wp2_with (first
    | (go_at_call 15; have g5 := h5; clear g5; refine (D4.out _ _ _ _ (h5.out.al (.cells #[.int .u64 20, .int .u64 0, .int .u64 0, .int .u64 0] 29))).mono ?_; rintro e w6 ⟨rfl, hs6, hb6⟩; have h6 := Lib.hid hs6; have R6 := Lib.hid ((hb6.block w4.heap.size (hp_lt ((heap_alloc_old w5 (.cells #[.int .u64 20, .int .u64 0, .int .u64 0, .int .u64 0] 29) (hp_lt R5.out)).trans R5.out))).trans ((heap_alloc_old w5 (.cells #[.int .u64 20, .int .u64 0, .int .u64 0, .int .u64 0] 29) (hp_lt R5.out)).trans R5.out)); have R6b := Lib.hid ((hb6.block w5.heap.size (by simp)).trans (heap_alloc_new w5 (.cells #[.int .u64 20, .int .u64 0, .int .u64 0, .int .u64 0] 29))); have a0 := (hp_cell (i := 0) R6.out).trans rfl; have a1 := (hp_cell (i := 1) R6.out).trans rfl; have a2 := (hp_cell (i := 2) R6.out).trans rfl; have a3 := (hp_cell (i := 3) R6.out).trans rfl; have b0 := (hp_cell (i := 0) R6b.out).trans rfl; have b1 := (hp_cell (i := 1) R6b.out).trans rfl; have b2 := (hp_cell (i := 2) R6b.out).trans rfl; have b3 := (hp_cell (i := 3) R6b.out).trans rfl; have L6 := hp_lt R6.out; have L6b := hp_lt R6b.out; clear hs6 hb6)
    | (go_at_call 15; have g5 := h4; clear g5; refine (D7.out _ _ _ _ (h4.out.al (.cells #[.int .u64 10, .int .u64 0, .int .u64 0, .int .u64 0] 29))).mono ?_; rintro e w5 ⟨rfl, hs5, hb5⟩; have h5 := Lib.hid hs5; have R5 := Lib.hid ((hb5.block w4.heap.size (by simp)).trans (heap_alloc_new w4 (.cells #[.int .u64 10, .int .u64 0, .int .u64 0, .int .u64 0] 29))); clear hs5 hb5)
    | (go_at_call 15; refine (D6.out _ _ _ _ h3.out).mono ?_; rintro e w4 ⟨rfl, hs4, _⟩; have h4 := Lib.hid hs4; clear hs4)
    | (go_at_call 14; have g5 := h2; clear g5; refine (D2.out _ _ _ _ h2.out).mono ?_; rintro e w3 ⟨rfl, hs3⟩; have h3 := Lib.hid hs3; clear hs3)
    | (go_at_call 14; refine (D1.out _ _ _ _ h1.out.start).mono ?_; rintro e w2 ⟨rfl, hs2⟩; have h2 := Lib.hid hs2; clear hs2)
    | (go_at_call 13; refine (SNew.new w _ (Below.refl _ _)).mono ?_; rintro e w1 ⟨b, F1, rfl, hs1, _, _⟩; have h1 := Lib.hid hs1; clear hs1))
  go_ret
  exact ⟨rfl, (h6.out.al _).l⟩
end Go.Proofs.Ytedkhpnlhkjjgaa

namespace Go.Proofs.Ytedkhpnlhkjjgaa
open Go.RowKit Go.Maps Go.Sort

theorem sget_setL (L : SL) (k v k' : ByteArray) : sget (setL L k v) k' = if k' = k then some v else sget L k' := by
  unfold setL
  split
  · rename_i h
    split
    · rename_i e; rw [e, h]
    · rfl
  · exact sget_sset L k v k'
theorem setL_len (L : SL) (k v : ByteArray) : (setL L k v).length ≤ L.length + 1 := by
  unfold setL
  split
  · omega
  · unfold sset
    split
    · simp
    · simp; omega
theorem setL_len_in (L : SL) (k v : ByteArray) (h : (sget L k).isSome = true) : (setL L k v).length = L.length := by
  unfold setL
  split
  · rfl
  · unfold sset; rw [if_pos h]; simp
/-- the checkpoints under the key K0: m of them, at the keys Kp -/
structure HisL (K0 : ByteArray) (Kp : Int → ByteArray) (L : SL) (m : Nat) (rx ra : Nat → Nat) : Prop where
  head : intAt L K0 m
  pts : ∀ k : Nat, k < m → sget L (Kp k) = some (hpV (rx k) (ra k))
  neg : sget L (Kp (-1)) = none
  len : L.length ≤ m + 1
  nil : m = 0 → L = []
  inc : ∀ j k, j < k → k < m → rx j < rx k
  bx : ∀ k, k < m → rx k ≤ 1099511627776
  ba : ∀ k, k < m → ra k < 2 ^ 256
  only : ∀ x, sget L x ≠ none → x = K0 ∨ ∃ j : Nat, j < m ∧ x = Kp j
/-- the keys stand apart -/
structure KeysOk (K0 : ByteArray) (Kp : Int → ByteArray) : Prop where
  k0 : K0.size ≤ maxLen ∧ K0 ≠ ⟨#[]⟩
  kp : ∀ k : Nat, k < 128 → (Kp k).size ≤ maxLen ∧ Kp k ≠ ⟨#[]⟩ ∧ Kp k ≠ K0 ∧ Kp k ≠ Kp (-1)
  kn : (Kp (-1)).size ≤ maxLen ∧ Kp (-1) ≠ K0
  inj : ∀ j k : Nat, j < 128 → k < 128 → Kp j = Kp k → j = k
theorem HisL.empty (K0 : ByteArray) (Kp : Int → ByteArray) (rx ra : Nat → Nat) : HisL K0 Kp [] 0 rx ra :=
  ⟨.inl ⟨rfl, rfl⟩, fun k h => absurd h (by omega), rfl, by simp, fun _ => rfl, fun j k _ h => absurd h (by omega), fun k h => absurd h (by omega), fun k h => absurd h (by omega), fun x h => absurd rfl h⟩
def updN (f : Nat → Nat) (i v : Nat) : Nat → Nat := fun k => if k = i then v else f k
theorem HisL.over {K0 : ByteArray} {Kp : Int → ByteArray} {L : SL} {m : Nat} {rx ra : Nat → Nat} (h : HisL K0 Kp L m rx ra) (hk : KeysOk K0 Kp) (hm : 0 < m) (hm2 : m ≤ 100) (a : Nat) (ha : a < 2 ^ 256) : HisL K0 Kp (setL L (Kp ((m - 1 : Nat) : Int)) (hpV (rx (m - 1)) a)) m rx (updN ra (m - 1) a) := by
  obtain ⟨q1, q2, q3, q4⟩ := hk.kp (m - 1) (by omega)
  refine ⟨?_, fun k hkm => ?_, ?_, ?_, fun e => absurd e (by omega), h.inc, h.bx, fun k hkm => ?_, fun x hx => ?_⟩
  · rcases h.head with ⟨h1, h2⟩ | h1
    · exact absurd h1 (by omega)
    · refine .inr ?_
      rw [sget_setL, if_neg (fun e => q3 e.symm)]
      exact h1
  · rw [sget_setL]
    unfold updN
    by_cases e : k = m - 1
    · subst e; rw [if_pos rfl, if_pos rfl]
    · rw [if_neg (fun e2 => e (hk.inj _ _ (by omega) (by omega) e2)), if_neg e]
      exact h.pts k hkm
  · rw [sget_setL, if_neg (fun e => q4 e.symm)]
    exact h.neg
  · rw [setL_len_in _ _ _ (by rw [h.pts (m - 1) (by omega)]; rfl)]
    exact h.len
  · unfold updN
    split
    · exact ha
    · exact h.ba k hkm
  · rw [sget_setL] at hx
    split at hx
    · rename_i e; exact .inr ⟨m - 1, by omega, e⟩
    · exact h.only x hx
theorem HisL.more {K0 : ByteArray} {Kp : Int → ByteArray} {L : SL} {m : Nat} {rx ra : Nat → Nat} (h : HisL K0 Kp L m rx ra) (hk : KeysOk K0 Kp) (hm2 : m < 101) (x a : Nat) (hx : x ≤ 1099511627776) (ha : a < 2 ^ 256) (hinc : ∀ j, j < m → rx j < x) : HisL K0 Kp (setL (setL L K0 (numStr ((m : Int) + 1))) (Kp ((m : Nat) : Int)) (hpV x a)) (m + 1) (updN rx m x) (updN ra m a) := by
  obtain ⟨q1, q2, q3, q4⟩ := hk.kp m (by omega)
  refine ⟨?_, fun k hkm => ?_, ?_, ?_, fun e => absurd e (by omega), fun j k hjk hkm => ?_, fun k hkm => ?_, fun k hkm => ?_, fun z hz => ?_⟩
  · refine .inr ?_
    rw [sget_setL, if_neg (fun e => q3 e.symm), sget_setL, if_pos rfl]
    rfl
  · rw [sget_setL]
    unfold updN
    by_cases e : k = m
    · subst e; rw [if_pos rfl, if_pos rfl, if_pos rfl]
    · obtain ⟨_, _, r3, _⟩ := hk.kp k (by omega)
      rw [if_neg (fun e2 => e (hk.inj _ _ (by omega) (by omega) e2)), sget_setL, if_neg r3, if_neg e, if_neg e]
      exact h.pts k (by omega)
  · rw [sget_setL, if_neg (fun e => q4 e.symm), sget_setL, if_neg hk.kn.2]
    exact h.neg
  · refine Nat.le_trans (setL_len _ _ _) ?_
    rcases h.head with ⟨h1, h2⟩ | h1
    · have hL := h.nil h1
      subst h1 hL
      have := setL_len [] K0 (numStr (((0 : Nat) : Int) + 1))
      simp at this ⊢
      omega
    · rw [setL_len_in _ _ _ (by rw [h1]; rfl)]
      have := h.len
      omega
  · unfold updN
    by_cases e : k = m
    · subst e; rw [if_neg (by omega), if_pos rfl]; exact hinc j hjk
    · rw [if_neg (by omega), if_neg e]; exact h.inc j k hjk (by omega)
  · unfold updN
    split
    · exact hx
    · exact h.bx k (by omega)
  · unfold updN
    split
    · exact ha
    · exact h.ba k (by omega)
  · rw [sget_setL] at hz
    split at hz
    · rename_i e; exact .inr ⟨m, by omega, e⟩
    · rw [sget_setL] at hz
      split at hz
      · rename_i e; exact .inl e
      · rcases h.only z hz with e | ⟨j, hj, e⟩
        · exact .inl e
        · exact .inr ⟨j, by omega, e⟩
/-- what a push does to the checkpoints, and tells -/
def PushR (m : Nat) (rx ra : Nat → Nat) (blk : Int) (a : Nat) (r : Int) (m' : Nat) (rx' ra' : Nat → Nat) : Prop :=
  (r = 2 ∧ (blk < 0 ∨ 1099511627776 < blk) ∧ m' = m ∧ rx' = rx ∧ ra' = ra) ∨
  ((0 ≤ blk ∧ blk ≤ 1099511627776) ∧
    ((r = 10 ∧ 0 < m ∧ blk < rx (m - 1) ∧ m' = m ∧ rx' = rx ∧ ra' = ra) ∨
     (r = 0 ∧ 0 < m ∧ (rx (m - 1) : Int) < blk ∧ ra (m - 1) = a ∧ m' = m ∧ rx' = rx ∧ ra' = ra) ∨
     (r = 0 ∧ 0 < m ∧ (rx (m - 1) : Int) = blk ∧ m' = m ∧ rx' = rx ∧ ra' = updN ra (m - 1) a) ∨
     (r = 0 ∧ (m = 0 ∨ (rx (m - 1) : Int) < blk ∧ ra (m - 1) ≠ a) ∧ m' = m + 1 ∧ rx' = updN rx m blk.toNat ∧ ra' = updN ra m a)))
/-- a store that holds the checkpoints -/
structure HisS (w0 W : World) (b : Nat) (K0 : ByteArray) (Kp : Int → ByteArray) (c m : Nat) (rx ra : Nat → Nat) : Prop where
  s : ∃ F L q qs, SNew w0 W b F L q qs ∧ q ≤ c ∧ HisL K0 Kp L m rx ra
theorem HisS.below {w0 W W' : World} {b : Nat} {K0 : ByteArray} {Kp : Int → ByteArray} {c m : Nat} {rx ra : Nat → Nat} (h : HisS w0 W b K0 Kp c m rx ra) (hb : Below W.heap.size W W') : HisS w0 W' b K0 Kp c m rx ra := by
  obtain ⟨F, L, q, qs, hs, g⟩ := h.s
  exact ⟨F, L, q, qs, hs.below hb, g⟩
theorem HisS.l {w0 W : World} {b : Nat} {K0 : ByteArray} {Kp : Int → ByteArray} {c m : Nat} {rx ra : Nat → Nat} (h : HisS w0 W b K0 Kp c m rx ra) : Below w0.heap.size w0 W := by
  obtain ⟨F, L, q, qs, hs, g⟩ := h.s
  exact hs.l
theorem HisS.of_live {w0 W W' : World} {b : Nat} {F : List Nat} {L : SL} {K0 : ByteArray} {Kp : Int → ByteArray} {q c m : Nat} {rx ra : Nat → Nat} (h : LiveTo w0 W W' b F L q) (hq : q ≤ c) (hd : HisL K0 Kp L m rx ra) : HisS w0 W' b K0 Kp c m rx ra := by
  obtain ⟨F', q', qs', hs, hq', _⟩ := h
  exact ⟨F', L, q', qs', hs, by omega, hd⟩
theorem hpush_law {w0 W : World} {b : Nat} {t : Int} {n : Nat} {f : Nat → Int} {c m : Nat} {rx ra : Nat → Nat} (K0 : ByteArray) (Kp : Int → ByteArray) (hK0 : keyStr t f n = K0) (hKp : ∀ k : Int, keyStr t (icat f n fun _ => k) (n + 1) = Kp k) (hk : KeysOk K0 Kp) (h : HisS w0 W b K0 Kp c m rx ra) (hc : c < 100000) (hm : m ≤ 100) (A : Option Addr) (cp : Nat)
    (hI : ∀ F L q qs, SNew w0 W b F L q qs → ∀ W', Touch F W W' → Il W' A n f) (hz : A = none → n = 0 ∧ cp = 0) (hn : n ≤ 20) (blk : Int) (a : Nat) (ha : a < 2 ^ 256) :
    Calls Try.prog 14 #[.pointer (some ⟨b, 0, none⟩), .int .i64 t, .slice A n cp, .int .i64 blk, U a] W fun e W' => ∃ r m' rx' ra', e = .returned (.int .i64 r) ∧ PushR m rx ra blk a r m' rx' ra' ∧ HisS w0 W' b K0 Kp (c + 2) m' rx' ra' ∧ ∀ T, Foreign T → KeepT T W W' := by
  obtain ⟨F, L, q, qs, hs, hq, hd⟩ := h.s
  have hl := hI F L q qs hs W (Touch.refl _ _)
  by_cases hbad : blk < 0 ∨ 1099511627776 < blk
  · refine (hpush_bad hs t A n cp f hl hn blk a K0 hK0 hk.k0.2 hbad).mono ?_
    rintro e W' ⟨he, hL⟩
    exact ⟨2, m, rx, ra, he, .inl ⟨rfl, hbad, rfl, rfl, rfl⟩, HisS.of_live hL (by omega) hd, fun T hT => LiveTo.keepT hs hL hT⟩
  obtain ⟨x, rfl⟩ : ∃ x : Nat, blk = (x : Int) := ⟨blk.toNat, by omega⟩
  have hx : x ≤ 1099511627776 := by omega
  have hg : (0 : Int) ≤ (x : Int) ∧ (x : Int) ≤ 1099511627776 := by omega
  have hlen := hd.len
  rcases Nat.eq_zero_or_pos m with rfl | hm0
  · obtain ⟨p1, p2, p3, p4⟩ := hk.kp 0 (by omega)
    refine (hpush_more hs t A n cp f (hI F L q qs hs) hz hn x a ha hx 0 (by omega) 0 0 false (reads_none hs t A n cp f _ _ (hKp _) (by omega) hk.kn.1 hd.neg) (.inl rfl) K0 (Kp ((0 : Nat) : Int)) hK0 (hKp _) hk.k0.1 p1 hk.k0.2 p2 hd.head (by omega) (by have := setL_len L K0 (numStr (((0 : Nat) : Int) + 1)); omega) (by omega)).mono ?_
    rintro e W' ⟨he, hL⟩
    refine ⟨0, 1, updN rx 0 x, updN ra 0 a, he, .inr ⟨hg, .inr (.inr (.inr ⟨rfl, .inl rfl, rfl, by simp, rfl⟩))⟩, HisS.of_live hL (by omega) ?_, fun T hT => LiveTo.keepT hs hL hT⟩
    exact hd.more hk (by omega) x a hx ha (fun j hj => absurd hj (by omega))
  · obtain ⟨y, hy⟩ : ∃ y, y = m - 1 := ⟨_, rfl⟩
    have hym : ((m : Nat) : Int) - 1 = (y : Int) := by omega
    obtain ⟨p1, p2, p3, p4⟩ := hk.kp y (by omega)
    obtain ⟨r1, r2, r3, r4⟩ := hk.kp m (by omega)
    have hbx := hd.bx y (by omega)
    have hba := hd.ba y (by omega)
    have hR : Reads W (some ⟨b, 0, none⟩) t A n cp f ((m : Int) - 1) (rx y : Nat) (ra y) true := by
      rw [hym]
      exact reads_some hs t A n cp f _ _ (hKp _) (rx y) (ra y) (by omega) hba (by omega) p1 (hd.pts y (by omega))
    rcases Nat.lt_trichotomy x (rx y) with hlt | heq | hgt
    · refine (hpush_state hs t A n cp f (hI F L q qs hs) hz hn x a ha hx m (by omega) (rx y) (ra y) hR hlt K0 hK0 hk.k0.1 hk.k0.2 hd.head).mono ?_
      rintro e W' ⟨he, hL⟩
      exact ⟨10, m, rx, ra, he, .inr ⟨hg, .inl ⟨rfl, hm0, by rw [← hy]; omega, rfl, rfl, rfl⟩⟩, HisS.of_live hL (by omega) hd, fun T hT => LiveTo.keepT hs hL hT⟩
    · refine (hpush_over hs t A n cp f (hI F L q qs hs) hz hn x a ha hx m (by omega) (rx y) (ra y) hR heq K0 hK0 hk.k0.1 hk.k0.2 hd.head (Kp ((y : Nat) : Int)) (by rw [← hKp, hym]) p1 p2 (by omega) (by omega)).mono ?_
      rintro e W' ⟨he, hL⟩
      refine ⟨0, m, rx, updN ra (m - 1) a, he, .inr ⟨hg, .inr (.inr (.inl ⟨rfl, hm0, by rw [← hy]; omega, rfl, rfl, rfl⟩))⟩, HisS.of_live hL (by omega) ?_, fun T hT => LiveTo.keepT hs hL hT⟩
      have := hd.over hk hm0 hm a ha
      rw [← hy, ← heq] at this
      rw [← hy]
      exact this
    · by_cases hE : ra y = a
      · refine (hpush_stay hs t A n cp f (hI F L q qs hs) hz hn x a ha hx m (by omega) (rx y) (ra y) hR hgt hE K0 hK0 hk.k0.1 hk.k0.2 hd.head).mono ?_
        rintro e W' ⟨he, hL⟩
        exact ⟨0, m, rx, ra, he, .inr ⟨hg, .inr (.inl ⟨rfl, hm0, by rw [← hy]; omega, by rw [← hy]; exact hE, rfl, rfl, rfl⟩)⟩, HisS.of_live hL (by omega) hd, fun T hT => LiveTo.keepT hs hL hT⟩
      · refine (hpush_more hs t A n cp f (hI F L q qs hs) hz hn x a ha hx m (by omega) (rx y) (ra y) true hR (.inr ⟨hgt, hE, hba⟩) K0 (Kp ((m : Nat) : Int)) hK0 (hKp _) hk.k0.1 r1 hk.k0.2 r2 hd.head (by omega) (by have := setL_len L K0 (numStr ((m : Int) + 1)); omega) (by omega)).mono ?_
        rintro e W' ⟨he, hL⟩
        refine ⟨0, m + 1, updN rx m x, updN ra m a, he, .inr ⟨hg, .inr (.inr (.inr ⟨rfl, .inr ⟨by rw [← hy]; omega, by rw [← hy]; exact hE⟩, rfl, by simp, rfl⟩))⟩, HisS.of_live hL (by omega) ?_, fun T hT => LiveTo.keepT hs hL hT⟩
        refine hd.more hk (by omega) x a hx ha (fun j hj => ?_)
        rcases Nat.lt_or_ge j y with h | h
        · exact Nat.lt_trans (hd.inc j y h (by omega)) hgt
        · obtain rfl : j = y := by omega
          exact hgt
theorem HisS.other {w0 W W' : World} {b : Nat} {K0 : ByteArray} {Kp : Int → ByteArray} {c m : Nat} {rx ra : Nat → Nat} (h : HisS w0 W b K0 Kp c m rx ra) (G : List Nat) (ht : Touch G W W') (hG : ∀ g ∈ G, w0.heap.size ≤ g ∧ ∃ cs T fr, W.heap[g]? = some (Obj.cells cs T fr) ∧ Foreign T) : HisS w0 W' b K0 Kp c m rx ra := by
  obtain ⟨F, L, q, qs, hs, g⟩ := h.s
  exact ⟨F, L, q, qs, hs.other G ht hG, g⟩
/-- the halving search finds how many blocks are not beyond blk -/
theorem hbs_count (rx : Int → Int) (ro : Int → Bool) (blk : Int) (m : Nat) (hro : ∀ k : Nat, k < m → ro k = true) (hinc : ∀ j k : Nat, j < k → k < m → rx j < rx k) : ∀ k l h, l ≤ h → h ≤ m → h - l ≤ k → (∀ j : Nat, j < l → rx j ≤ blk) → (∀ j : Nat, h ≤ j → j < m → blk < rx j) →
    l ≤ hbs rx ro blk k l h ∧ hbs rx ro blk k l h ≤ h ∧ (∀ j : Nat, j < hbs rx ro blk k l h → rx j ≤ blk) ∧ (∀ j : Nat, hbs rx ro blk k l h ≤ j → j < m → blk < rx j)
  | 0, l, h, hl, hm, hk, h1, h2 => by
    obtain rfl : l = h := by omega
    exact ⟨Nat.le_refl _, Nat.le_refl _, h1, h2⟩
  | k + 1, l, h, hl, hm, hk, h1, h2 => by
    unfold hbs
    by_cases hlh : l < h
    · rw [if_pos hlh]
      have hmid : l + (h - l) / 2 < h := by omega
      by_cases hc : ro ((l + (h - l) / 2 : Nat) : Int) = true ∧ rx ((l + (h - l) / 2 : Nat) : Int) ≤ blk
      · rw [if_pos hc]
        have ih := hbs_count rx ro blk m hro hinc k (l + (h - l) / 2 + 1) h (by omega) hm (by omega) (fun j hj => by
          rcases Nat.lt_or_ge j (l + (h - l) / 2) with h3 | h3
          · have := hinc j (l + (h - l) / 2) h3 (by omega); have := hc.2; omega
          · obtain rfl : j = l + (h - l) / 2 := by omega
            exact hc.2) h2
        exact ⟨by omega, ih.2.1, ih.2.2.1, ih.2.2.2⟩
      · rw [if_neg hc]
        have hc2 : blk < rx ((l + (h - l) / 2 : Nat) : Int) := by
          have := hro (l + (h - l) / 2) (by omega)
          rcases Int.lt_or_le blk (rx ((l + (h - l) / 2 : Nat) : Int)) with h3 | h3
          · exact h3
          · exact absurd ⟨this, h3⟩ hc
        have ih := hbs_count rx ro blk m hro hinc k l (l + (h - l) / 2) (by omega) (by omega) (by omega) h1 (fun j hj hjm => by
          rcases Nat.lt_or_ge (l + (h - l) / 2) j with h3 | h3
          · have := hinc (l + (h - l) / 2) j h3 hjm; omega
          · obtain rfl : j = l + (h - l) / 2 := by omega
            exact hc2)
        exact ⟨ih.1, by omega, ih.2.2.1, ih.2.2.2⟩
    · rw [if_neg hlh]
      obtain rfl : l = h := by omega
      exact ⟨Nat.le_refl _, Nat.le_refl _, h1, h2⟩
def rxZ (rx : Nat → Nat) (k : Int) : Int := if 0 ≤ k then ((rx k.toNat : Nat) : Int) else 0
theorem rxZ_nat (rx : Nat → Nat) (j : Nat) : rxZ rx (j : Int) = (rx j : Int) := by unfold rxZ; rw [if_pos (by omega), Int.toNat_natCast]
/-- what is at a block: of the checkpoints not beyond it the last one's amount -/
def AtR (m : Nat) (rx ra : Nat → Nat) (blk : Int) (a : Nat) (o : Bool) : Prop :=
  (o = false ∧ a = 0 ∧ ∀ j, j < m → blk < rx j) ∨ (∃ k, k < m ∧ o = true ∧ a = ra k ∧ (rx k : Int) ≤ blk ∧ ∀ j, k < j → j < m → blk < rx j)
theorem hat_law {w0 W : World} {b : Nat} {t : Int} {n : Nat} {f : Nat → Int} {c m : Nat} {rx ra : Nat → Nat} (K0 : ByteArray) (Kp : Int → ByteArray) (hK0 : keyStr t f n = K0) (hKp : ∀ k : Int, keyStr t (icat f n fun _ => k) (n + 1) = Kp k) (hk : KeysOk K0 Kp) (h : HisS w0 W b K0 Kp c m rx ra) (hm : m ≤ 101) (A : Option Addr) (cp : Nat)
    (hl : Il W A n f) (hz : A = none → n = 0 ∧ cp = 0) (hn : n ≤ 20) (blk : Int) :
    Calls Try.prog 15 #[.pointer (some ⟨b, 0, none⟩), .int .i64 t, .slice A n cp, .int .i64 blk] W fun e W' => (∃ a o, e = .returned (.tuple #[U a, .bool o]) ∧ AtR m rx ra blk a o ∧ a < 2 ^ 256) ∧ Below W.heap.size W W' := by
  obtain ⟨F, L, q, qs, hs, hq, hd⟩ := h.s
  have hZ := hbs_count (rxZ rx) (fun k => decide (0 ≤ k ∧ k < m)) blk m (fun k hk => by simp; omega) (fun j k hjk hkm => by rw [rxZ_nat, rxZ_nat]; have := hd.inc j k hjk hkm; omega) m 0 m (by omega) (by omega) (by omega) (fun j hj => absurd hj (by omega)) (fun j hj hj2 => absurd hj2 (by omega))
  obtain ⟨Z, eZ⟩ : ∃ Z, hbs (rxZ rx) (fun k => decide (0 ≤ k ∧ k < m)) blk m 0 m = Z := ⟨_, rfl⟩
  rw [eZ] at hZ
  obtain ⟨_, hZm, hZ1, hZ2⟩ := hZ
  refine (hat_walk (some ⟨b, 0, none⟩) t A n cp f blk m (rxZ rx) (fun k => if 0 ≤ k then ra k.toNat else 0) (fun k => decide (0 ≤ k ∧ k < m)) W hl hz hn (by omega) (fun W1 hb => hlen_live (hs.below hb) t A n cp f (hl.below hb) hn K0 hK0 hk.k0.1 m hd.head (by omega)) (fun k h1 h2 => ?_) Z eZ).mono ?_
  · by_cases h0 : 0 ≤ k
    · obtain ⟨j, rfl⟩ : ∃ j : Nat, k = (j : Int) := ⟨k.toNat, by omega⟩
      have hjm : j < m := by omega
      have := reads_some hs t A n cp f _ _ (hKp _) (rx j) (ra j) (by have := hd.bx j hjm; omega) (hd.ba j hjm) (by omega) (hk.kp j (by omega)).1 (hd.pts j hjm)
      simp only [Int.toNat_natCast]
      rw [rxZ_nat, if_pos h0, show decide ((0 : Int) ≤ (j : Int) ∧ (j : Int) < (m : Int)) = true from by simp; omega]
      exact this
    · obtain rfl : k = -1 := by omega
      have := reads_none hs t A n cp f _ _ (hKp _) (by omega) hk.kn.1 hd.neg
      simpa [rxZ] using this
  · rintro e W' ⟨he, hb⟩
    refine ⟨⟨_, _, he, ?_, ?_⟩, hb⟩
    · rcases Nat.eq_zero_or_pos Z with rfl | hp
      · refine .inl ⟨by simp, by simp, fun j hj => ?_⟩
        have := hZ2 j (by omega) hj
        rwa [rxZ_nat] at this
      · refine .inr ⟨Z - 1, by omega, by simp; omega, ?_, ?_, fun j hj hjm => ?_⟩
        · rw [if_pos (by omega)]; congr 1; omega
        · have := hZ1 (Z - 1) (by omega)
          rwa [rxZ_nat] at this
        · have := hZ2 j (by omega) hjm
          rwa [rxZ_nat] at this
    · split
      · rcases Nat.eq_zero_or_pos Z with rfl | hp
        · rename_i h; simp at h
        · exact hd.ba _ (by omega)
      · decide
end Go.Proofs.Ytedkhpnlhkjjgaa

namespace Go.Proofs.Ytedkhpnlhkjjgaa
open Go.RowKit

/-- N rows of k cells at A: row i holds V i -/
def RowsV (W : World) (A : Option Addr) (N k : Nat) (V : Nat → List Value) : Prop :=
  0 < N → ∃ g o, A = some ⟨g, o, none⟩ ∧ g < W.heap.size ∧ ∀ i, i < N → ∀ j u, (V i)[j]? = some u → W.cell? ⟨g, o + i * k + j, none⟩ = some u
theorem RowsV.nil (W : World) (A : Option Addr) (k : Nat) (V : Nat → List Value) : RowsV W A 0 k V := fun h => absurd h (by omega)
theorem RowsV.below {W W' : World} {A : Option Addr} {N k : Nat} {V : Nat → List Value} (h : RowsV W A N k V) (hb : Below W.heap.size W W') : RowsV W' A N k V := fun hN => by
  obtain ⟨g, o, e, hg, hc⟩ := h hN
  refine ⟨g, o, e, Nat.lt_of_lt_of_le hg hb.size, fun i hi j u hu => ?_⟩
  exact (hb.cell (p := ⟨g, o + i * k + j, none⟩) hg).trans (hc i hi j u hu)
theorem RowsV.of_cells {W : World} {a : Addr} {N k : Nat} {V : Nat → List Value} (hk : 0 < k) (h : ∀ i, i < N → W.cells? 0 (a.add (i * k)) k = some (V i)) : RowsV W (some a) N k V := fun hN => by
  have hat : ∀ i, i < N → ∀ j u, (V i)[j]? = some u → W.cell? (a.add (i * k + j)) = some u := fun i hi j u hu => by
    obtain ⟨_, hl, hc⟩ := World.cells?_some (h i hi)
    have hj : j < k := by
      rw [← hl]
      rcases Nat.lt_or_ge j (V i).length with h | h
      · exact h
      · rw [List.getElem?_eq_none h] at hu; cases hu
    have := hc j hj
    rw [Go.Deep.add_add] at this
    rw [this, hu]
  obtain ⟨_, hl, _⟩ := World.cells?_some (h 0 hN)
  obtain ⟨u, hu⟩ : ∃ u, (V 0)[0]? = some u := ⟨(V 0)[0]'(by omega), by rw [List.getElem?_eq_getElem]⟩
  have h0 := hat 0 hN 0 u hu
  have hlt := World.block_lt_of_cell? W _ h0
  obtain ⟨g, o, sp⟩ := a
  have hspot : sp = none := by simpa [Addr.add] using World.cell?_spot h0
  subst hspot
  refine ⟨g, o, rfl, by simpa [Addr.add] using hlt, fun i hi j u hu => ?_⟩
  have := hat i hi j u hu
  rw [show (⟨g, o, none⟩ : Addr).add (i * k + j) = ⟨g, o + (i * k + j), none⟩ from by
    generalize i * k + j = z
    cases z <;> simp [Addr.add], ← Nat.add_assoc] at this
  exact this
end Go.Proofs.Ytedkhpnlhkjjgaa
