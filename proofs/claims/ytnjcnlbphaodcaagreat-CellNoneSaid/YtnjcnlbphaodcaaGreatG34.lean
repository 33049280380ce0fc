/- keys.Parse, Table, tallageref09.Parse, ToAmount, at any text. -/
import Derived.Test.YtnjcnlbphaodcaaGreatG30
import Derived.Test.YtnjcnlbphaodcaaGreatG33
import Derived.Test.YtnjcnlbphaodcaaGreatG26
import Derived.Test.YtnjcnlbphaodcaaGreatG28
import Derived.Test.YtnjcnlbphaodcaaGreatG09
import Derived.Test.YtnjcnlbphaodcaaGreatG12
import Derived.Test.YtnjcnlbphaodcaaGreatG29
namespace Go.Proofs.YtnjcnlbphaodcaaGreat
open Go.RowKit Go.Sort

theorem Il.nil (w : World) (f : Nat → Int) (h : ∀ i, f i < 2 ^ 63) : Il w none 0 f := ⟨h, fun h => absurd h (by omega)⟩
theorem nums_ok_of {f : FuncId} {v : ByteArray} {w : World} (hok : okN v) (h : Calls Tryz.prog f #[.string v] w (NumsAny v w)) :
    Calls Tryz.prog f #[.string v] w fun e w' => (∃ A c, e = .returned (.tuple #[.slice A (v.size / 8) c, .bool true]) ∧ Il w' A (v.size / 8) (chv v)) ∧ Below w.heap.size w w' :=
  h.mono fun e w' ⟨h1, hw⟩ => ⟨by rcases h1 with ⟨_, h2⟩ | ⟨hno, _⟩; exact h2; exact absurd hok hno, hw⟩
theorem nums_no_of {f : FuncId} {v : ByteArray} {w : World} (hok : ¬ okN v) (h : Calls Tryz.prog f #[.string v] w (NumsAny v w)) :
    Calls Tryz.prog f #[.string v] w fun e w' => e = .returned (.tuple #[.slice none 0 0, .bool false]) ∧ Below w.heap.size w w' :=
  h.mono fun e w' ⟨h1, hw⟩ => ⟨by rcases h1 with ⟨hy, _⟩ | ⟨_, h2⟩; exact absurd hy hok; exact h2, hw⟩
/-- a text that is a key -/
def okP (s : ByteArray) : Prop := 0 < s.size ∧ sb s 0 ≠ 0 ∧ okN (s.extract 1 s.size)
noncomputable instance (s : ByteArray) : Decidable (okP s) := Classical.propDecidable _
noncomputable instance (s : ByteArray) : Decidable (okN s) := Classical.propDecidable _
noncomputable def pT (s : ByteArray) : Nat := if okP s then sb s 0 else 0
noncomputable def pN (s : ByteArray) : Nat := if okP s then (s.extract 1 s.size).size / 8 else 0
noncomputable def nN (s : ByteArray) : Nat := if okN s then s.size / 8 else 0
def PAny (s : ByteArray) (w : World) (e : Ending) (w' : World) : Prop :=
  (∃ A c, e = .returned (.tuple #[.int .i64 (pT s : Nat), .slice A (pN s) c, .bool (decide (okP s))]) ∧ Il w' A (pN s) (chv (s.extract 1 s.size))) ∧ Below w.heap.size w w'
theorem pany_no {s : ByteArray} {w w' : World} {e : Ending} (h : ¬ okP s) (he : e = .returned (.tuple #[.int .i64 0, .slice none 0 0, .bool false])) (hw : Below w.heap.size w w') : PAny s w e w' := by
  unfold PAny pT pN
  rw [if_neg h, if_neg h, decide_eq_false h]
  exact ⟨⟨none, 0, he, Il.nil _ _ (chv_lt _)⟩, hw⟩
theorem pany_yes {s : ByteArray} {w w' : World} {e : Ending} (h : okP s) (A : Option Addr) (c : Nat) (he : e = .returned (.tuple #[.int .i64 (sb s 0 : Nat), .slice A ((s.extract 1 s.size).size / 8) c, .bool true])) (il : Il w' A ((s.extract 1 s.size).size / 8) (chv (s.extract 1 s.size))) (hw : Below w.heap.size w w') : PAny s w e w' := by
  unfold PAny pT pN
  rw [if_pos h, if_pos h, decide_eq_true h]
  exact ⟨⟨A, c, he, il⟩, hw⟩
theorem nums_c {f : FuncId} {v : ByteArray} {w : World} (h : Calls Tryz.prog f #[.string v] w (NumsAny v w)) :
    Calls Tryz.prog f #[.string v] w fun e w' => (∃ A c, e = .returned (.tuple #[.slice A (nN v) c, .bool (decide (okN v))]) ∧ Il w' A (nN v) (chv v)) ∧ Below w.heap.size w w' := by
  refine h.mono fun e w' ⟨h1, hw⟩ => ⟨?_, hw⟩
  unfold nN
  rcases h1 with ⟨hy, A, c, he, il⟩ | ⟨hno, he⟩
  · rw [if_pos hy, decide_eq_true hy]; exact ⟨A, c, he, il⟩
  · rw [if_neg hno, decide_eq_false hno]; exact ⟨none, 0, he, Il.nil _ _ (chv_lt _)⟩
theorem rfb_c (A : Option Addr) (c x : Nat) (ok : Bool) (s : ByteArray) (w : World) (hs : Sl w A s.size (sb s)) (hx : fbv s = x) (hok : decide (s.size = 32) = ok) : Calls Tryz.prog 84 #[.slice A s.size c] w fun e w' => e = .returned (.tuple #[U x, .bool ok]) ∧ Below w.heap.size w w' := by
  rw [← hx, ← hok]; exact rfb_walk A s.size c (sb s) w hs
set_option maxRecDepth 100000 in
set_option maxHeartbeats 1000000 in
theorem rtoAmount_walk (s : ByteArray) (x : Nat) (ok : Bool) (w : World) (hx : fbv s = x) (hok : decide (s.size = 32) = ok) : Calls Tryz.prog 68 #[.string s] w fun e w' => e = .returned (.tuple #[U x, .bool ok]) ∧ Below w.heap.size w w' := by
  have hcv := fun w s => run_bytes_of_string (P := Tryz.prog) w 9 82 5 s Tryz.underlying9 Tryz.underlying82 Tryz.underlying5
  have Hx := Lib.hid hx
  have Hok := Lib.hid hok
  clear hx hok
  have z0 := (Arr.new4 (κ := .u64) (w := w) (t := 24) (f := fun _ => 0) (b := w.heap.size) rfl)
  have Z0 := Lib.hid z0
  clear z0
  unfold U
  go_enter Tryz.func68, Tryz.ntmps68
  go_wp2_with (go_at_call 84; refine (rfb_c (some ⟨w.heap.size + 1, 0, none⟩) _ x ok s _ (sl_conv s (w.alloc (.cells #[.int .u64 0, .int .u64 0, .int .u64 0, .int .u64 0] 24)) _ _ _ _ _ (by simp)) Hx.out Hok.out).mono ?_; rintro e w1 ⟨rfl, hb1⟩; have z1 := ((Z0.out.alloc _).drew).below hb1 (by show w.heap.size < ((w.alloc _).alloc _).heap.size; simp only [World.size_alloc]; omega); obtain ⟨f0, f1, f2, f3⟩ := z1.frees4; obtain ⟨c0, c1, c2, c3⟩ := z1.cells4; unfold U)
  refine bodyPost_ret (v := .tuple #[.agg #[.int .u64 (limb x 0 : Nat), .int .u64 (limb x 1 : Nat), .int .u64 (limb x 2 : Nat), .int .u64 (limb x 3 : Nat)], .bool ok]) (by simp [results, Tryz.results68, go_sem, c0, c1, c2, c3]) rfl ⟨rfl, below_set4 ((below_drewN (((Below.refl _ _).alloc (Nat.le_refl _) _).alloc (by simp) _) 1).trans (hb1.mono (by show w.heap.size ≤ ((w.alloc _).alloc _).heap.size; simp only [World.size_alloc]; omega))) (Nat.le_refl _)⟩
end Go.Proofs.YtnjcnlbphaodcaaGreat

namespace Go.Proofs.YtnjcnlbphaodcaaGreat
open Go.RowKit Go.Maps Go.Sort

theorem DSTo.pre {w W W1 W2 : World} {m : Nat} {L L' : SL} {R R' : List Ch} (h : DS w W m L R) (hb : Below W.heap.size W W1) (h' : DSTo w W1 W2 m L' R') : DSTo w W W2 m L' R' := (DSTo.of_below h hb).trans h'
theorem snew_other {w W W' : World} {b m : Nat} {F : List Nat} {L L' : SL} {R' : List Ch} {q : Nat} {qs : List Value} (h : SNew w W b F L q qs) (hd : DSTo w W W' m L' R') : SNew w W' b F L q qs := by
  obtain ⟨G, ht, hG⟩ := hd.ex
  exact h.other G ht fun g hg => by
    obtain ⟨h1, cs, T, fr, h2, h3⟩ := hG g hg
    exact ⟨h1, cs, T, fr, h2, h3.1.foreign⟩
theorem ds_live {w W W' : World} {b m : Nat} {F : List Nat} {L L1 L' : SL} {R' : List Ch} {q q1 : Nat} {qs : List Value} (h : DS w W m L' R') (hs : SNew w W b F L q qs) (hl : LiveTo w W W' b F L1 q1) : DS w W' m L' R' := by
  have hl' := hl
  obtain ⟨_, _, _, hn, _⟩ := hl'
  exact h.keep hn.l fun _ hT => LiveTo.keepT hs hl hT.foreign
theorem okN_nil : okN ⟨#[]⟩ := ⟨by decide, fun i hi => by
  have : (⟨#[]⟩ : ByteArray).size / 8 = 0 := by decide
  omega⟩
theorem okN_num {n : Nat} (hn : n < 2 ^ 63) : okN (numStr n) := by
  have h8 := numStr_sizeA (n : Int)
  refine ⟨by rw [h8], fun i hi => ?_⟩
  rw [h8] at hi
  obtain rfl : i = 0 := by omega
  rw [chunk_numStr hn]
  exact hn
set_option maxRecDepth 100000 in
set_option maxHeartbeats 1000000 in
theorem rrow_walk (w W : World) (m : Nat) (L : SL) (R : List Ch) (k v : ByteArray) (h : DS w W m L R) (hr : Rising (skeys L)) (hN : L.length ≤ 1000000) (hv : v = (sget L k).getD ⟨#[]⟩) (hs : v.size ≤ 800) (hok : okN v) :
    Calls Tryz.prog 73 #[.pointer (some ⟨m, 0, none⟩), .string k] W fun e W' => (∃ A c, e = .returned (.slice A (v.size / 8) c) ∧ Il W' A (v.size / 8) (chv v)) ∧ Below W.heap.size W W' := by
  have hG := rget_walk m L k W h.dl hr hN
  rw [← hv] at hG
  obtain ⟨is, his⟩ : ∃ y, y = (sget L k).isSome := ⟨_, rfl⟩
  rw [← his] at hG
  have HG := Lib.hid hG
  have HNm := Lib.hid (nums_ok_of hok (rnums_walk v W hs))
  obtain ⟨n8, hn8⟩ : ∃ y, y = v.size / 8 := ⟨_, rfl⟩
  rw [← hn8] at HNm ⊢
  clear h hr hN hv hs hok hG his hn8
  go_enter Tryz.func73, Tryz.ntmps73
  go_wp2_with (first
    | (go_at_call 87; refine HNm.out.mono ?_; rintro e w2 ⟨⟨A2, C2, rfl, hil⟩, hb2⟩; have H2 := Lib.hid (And.intro hil hb2); clear hil hb2)
    | (go_at_call 61; refine HG.out.mono ?_; rintro e w1 ⟨rfl, rfl⟩))
  go_ret
  exact ⟨⟨A2, C2, rfl, H2.out.1⟩, H2.out.2⟩
set_option maxRecDepth 100000 in
set_option maxHeartbeats 1000000 in
theorem rint_walk (w W : World) (m : Nat) (L : SL) (R : List Ch) (k : ByteArray) (n : Nat) (h : DS w W m L R) (hr : Rising (skeys L)) (hN : L.length ≤ 1000000) (he : intAt L k n) (hn : n < 2 ^ 63) :
    Calls Tryz.prog 50 #[.pointer (some ⟨m, 0, none⟩), .string k] W fun e W' => e = .returned (.int .i64 (n : Nat)) ∧ Below W.heap.size W W' := by
  rcases he with ⟨rfl, he⟩ | he
  · have HR := Lib.hid (rrow_walk w W m L R k ⟨#[]⟩ h hr hN (by rw [he]; rfl) (by decide) okN_nil)
    clear h hr hN he hn
    go_enter Tryz.func50, Tryz.ntmps50
    go_wp2_with (go_at_call 73; refine HR.out.mono ?_; rintro e w2 ⟨⟨A2, C2, rfl, hil⟩, hb2⟩; have H2 := Lib.hid hb2; clear hil hb2)
    go_ret
    exact ⟨rfl, H2.out⟩
  · have h8 := numStr_sizeA (n : Int)
    have hrw := rrow_walk w W m L R k (numStr n) h hr hN (by rw [he]; rfl) (by rw [h8]; decide) (okN_num hn)
    have hch : chv (numStr n) 0 = (n : Int) := by
      unfold chv
      rw [if_pos ⟨by rw [h8]; decide, by rw [chunk_numStr hn]; exact hn⟩, chunk_numStr hn]
    rw [h8] at hrw
    have HR := Lib.hid hrw
    have HC := Lib.hid hch
    clear h hr hN he hn hrw h8 hch
    go_enter Tryz.func50, Tryz.ntmps50
    go_wp2_with (go_at_call 73; refine HR.out.mono ?_; rintro e w2 ⟨⟨A2, C2, he, hil⟩, hb2⟩; obtain ⟨g, o, rfl, _, hcc⟩ := hil.2 (by decide); obtain rfl : e = .returned (.slice (some ⟨g, o, none⟩) 1 C2) := he; have d0 := hcc 0 (by decide); rw [HC.out] at d0; simp only [Nat.add_zero] at d0; have H2 := Lib.hid hb2; clear hil hb2 hcc)
    go_ret
    exact ⟨rfl, H2.out⟩
set_option maxRecDepth 100000 in
set_option maxHeartbeats 1000000 in
theorem rsetInt_walk (w W : World) (m : Nat) (L : SL) (R : List Ch) (k : ByteArray) (n : Int) (h : DS w W m L R) (hr : Rising (skeys L)) (hN : L.length < 1000000) (hR : R.length < 1000000) (hn : n < 2 ^ 63) :
    Calls Tryz.prog 17 #[.pointer (some ⟨m, 0, none⟩), .string k, .int .i64 n] W fun e W' => e = .returned (.tuple #[]) ∧ DSTo w W W' m (if n < 1 then sdel L k else setE L k (numStr n)) (if n < 1 then delR L R k else setR L R k (numStr n)) := by
  by_cases h1 : n < 1
  · rw [if_pos h1, if_pos h1]
    have HD := Lib.hid (rdel_walk w W m L R k h hr hN hR)
    clear h hr hN hR hn
    go_enter Tryz.func17, Tryz.ntmps17
    go_wp2_with (go_at_call 38; refine HD.out.mono ?_; rintro e w2 ⟨rfl, h2⟩; have H2 := Lib.hid h2; clear h2)
    refine bodyPost_ret (v := .tuple #[]) (by simp [results, Tryz.results17, go_sem]) rfl ⟨rfl, H2.out⟩
  · rw [if_neg h1, if_neg h1]
    have HNm := Lib.hid (rnum9_walk n W hn)
    have HS := Lib.hid (fun (W1 : World) (hb : Below W.heap.size W W1) => (rset_walk w W1 m L R k (numStr n) (h.below hb) hr hN hR).mono fun e W' hp => (⟨⟨_, hp.1⟩, DSTo.pre h hb hp.2⟩ : (∃ z, e = .returned (.int .i64 z)) ∧ DSTo w W W' m (setE L k (numStr n)) (setR L R k (numStr n))))
    clear h hr hN hR hn
    go_enter Tryz.func17, Tryz.ntmps17
    go_wp2_with (first
      | (go_at_call 39; refine (HS.out _ H1.out).mono ?_; rintro e w2 ⟨⟨z, rfl⟩, h2⟩; have H2 := Lib.hid h2; clear h2)
      | (go_at_call 40; refine HNm.out.mono ?_; rintro e w1 ⟨rfl, hb1⟩; have H1 := Lib.hid hb1; clear hb1))
    go_end0
    exact ⟨rfl, H2.out⟩
end Go.Proofs.YtnjcnlbphaodcaaGreat

namespace Go.Proofs.YtnjcnlbphaodcaaGreat
open Go.RowKit Go.Sort

theorem infoU8 : (Tryz.prog.info? 5).map (fun i => (i.zero, i.size, i.bytes)) = some (some (.int .u8 0), 1, 1) := by kernel_rfl
/-- the values of k bytes -/
def u8s (f : Nat → Nat) (k : Nat) : List Value := (List.range k).map fun i => Value.int .u8 (f i : Nat)
theorem u8s_succ (f : Nat → Nat) (k : Nat) : u8s f (k + 1) = u8s f k ++ [.int .u8 (f k : Nat)] := by simp [u8s, List.range_succ]
def RbyRel (a : Nat) (w : World) (x y : Value) (wr : World) : Prop :=
  ∃ k : Nat, k ≤ 32 ∧ y = .int .i64 (31 - (k : Int)) ∧ wr.ownsRow (w.heap.size + 1) 5 1 x k (u8s (fun i => byteAt a (31 - i)) k) ∧ Arr .u64 wr w.heap.size 4 (limb a) ∧ Below w.heap.size w wr ∧ w.heap.size < wr.heap.size
def RbyPost (a : Nat) (w : World) (e : Ending) (w' : World) : Prop :=
  (∃ v, e = .returned v ∧ w'.ownsRow (w.heap.size + 1) 5 1 v 32 (u8s (fun i => byteAt a (31 - i)) 32)) ∧ Below w.heap.size w w'

set_option maxRecDepth 100000 in
set_option maxHeartbeats 2000000 in
theorem rbytes_walk (a : Nat) (w : World) : Calls Tryz.prog 64 #[U a] w (RbyPost a w) := by
  obtain ⟨i0, hi, hz0, hz1, hz2⟩ := info_parts infoU8
  unfold U
  go_enter Tryz.func64, Tryz.ntmps64
  go_wp2
  go_loopw [3, 4] (RbyRel a w) (fun _ y _ => (intOf y + 1).toNat)
  case atStart =>
    exact ⟨0, by omega, rfl, World.ownsRow_nil _ _ _ _, Arr.new4 (f := limb a) rfl, (Below.refl _ _).alloc (Nat.le_refl _) _, by simp⟩
  case round =>
    obtain ⟨k, hk, rfl, hown, hb, hbel, hsz⟩ := hrel
    by_cases hlt : k < 32
    · obtain ⟨q, hq⟩ : ∃ q, q = (31 - k) / 8 := ⟨_, rfl⟩
      obtain ⟨r, hr⟩ : ∃ r, r = (31 - k) % 8 := ⟨_, rfl⟩
      have e0 : (0 : Int) ≤ 31 - (k : Int) := by omega
      have e1 : ((31 : Int) - (k : Int)).tdiv 8 = (q : Int) := by rw [Int.tdiv_eq_ediv_of_nonneg (by omega)]; omega
      have e2 : ((31 : Int) - (k : Int)).tmod 8 = (r : Int) := by rw [Int.tmod_eq_emod_of_nonneg (by omega)]; omega
      have e3 : ((31 : Int) - (k : Int)) / 8 = (q : Int) := by omega
      have hq4 : q < 4 := by omega
      have q7 : (q : Int) < 4 := by omega
      have hr8 : r < 8 := by omega
      have b1 := byte_run (a := a) hq hr
      rw [Nat.mul_comm r 8] at b1
      have i4 : IntKind.i64.wrap (8 * (r : Int)) = 8 * (r : Int) := IntWalk.i64_in _ (by omega)
      have i5 : IntKind.u64.wrap (8 * (r : Int)) = 8 * (r : Int) := IntWalk.u64_in _ (by omega)
      have i6 : (8 * (r : Int)).toNat = 8 * r := by omega
      have i7 : IntKind.i64.wrap (31 - (k : Int) - 1) = 31 - (k : Int) - 1 := IntWalk.i64_in _ (by omega)
      have c1 := hb.cell q hq4
      have hne := own_ne hown (show w.heap.size < w.heap.size + 1 by omega)
      clear hq hr
      go_wp2_with (at_builtin; refine wpList_append_own _ rfl _ _ _ rfl (w.heap.size + 1) 5 i0 _ 1 1 Tryz.underlying82 hi hz0 hz1 hz2 rfl (by omega) _ k (u8s (fun i => byteAt a (31 - i)) k) rfl (hown.alloc _) ⟨wr.heap.size, 0, none⟩ 1 1 [.int .u8 (byteAt a (31 - k) : Nat)] rfl rfl (World.news_of_block (cs := #[.int .u8 (byteAt a (31 - k) : Nat)]) (t := 5) (fr := (0, 0)) (heap_alloc_new wr _)) (by simp [Value.oneCell']) (by unfold maxLen; omega) (by omega) (by simp; omega) ?_)
      intro v1 w1 hown1 hgrow _
      go_wp2
      have hsz2 : w.heap.size < (wr.alloc (.cells #[.int .u8 (byteAt a (31 - k) : Nat)] 5)).heap.size := by rw [World.size_alloc]; omega
      refine ⟨⟨k + 1, by omega, by congr 1; omega, ?_, (hb.alloc _).grown hgrow hsz2 hne, ?_, Nat.lt_of_lt_of_le hsz2 hgrow.size⟩, by simp [intOf]; omega⟩
      · rw [u8s_succ]; exact hown1
      · exact (hbel.alloc (Nat.le_of_lt hsz) _).grown hgrow (Nat.le_of_lt hsz2) (fun j hj => by have := own_ge hown j hj; omega)
    · obtain rfl : k = 32 := by omega
      go_wp2
      go_ret
      exact ⟨⟨_, rfl, hown⟩, hbel⟩
end Go.Proofs.YtnjcnlbphaodcaaGreat
