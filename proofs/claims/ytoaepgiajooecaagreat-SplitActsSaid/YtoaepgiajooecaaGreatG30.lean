/- tallageref01.FromBytes, walked. -/
import Derived.Test.YtoaepgiajooecaaGreatG29
import Derived.Test.YtoaepgiajooecaaGreatG26
import Derived.Test.YtoaepgiajooecaaGreatG17
import Derived.Test.YtoaepgiajooecaaGreatG19
import Derived.Test.YtoaepgiajooecaaGreatG11
namespace Go.Proofs.YtoaepgiajooecaaGreat
open Go.RowKit Go.Sort

theorem bnum_byte {f : Nat → Nat} (h : ∀ i, f i < 256) : ∀ n m, m < n → bnum f n / 2 ^ (8 * m) % 256 = f (31 - m)
  | 0, m, hm => absurd hm (by omega)
  | n + 1, m, hm => by
    simp only [bnum]
    by_cases e : m = n
    · subst e
      rw [Nat.add_mul_div_right _ _ (Nat.pow_pos (by decide)), Nat.div_eq_of_lt (bnum_lt h m), Nat.zero_add, Nat.mod_eq_of_lt (h _)]
    · have ih := bnum_byte h n m (by omega)
      have e2 : 2 ^ (8 * n) = 2 ^ (8 * m) * (256 * 2 ^ (8 * (n - m - 1))) := by
        rw [show (256 : Nat) = 2 ^ 8 from rfl, ← Nat.pow_add, ← Nat.pow_add]; congr 1; omega
      rw [e2, Nat.mul_left_comm, Nat.add_mul_div_left _ _ (Nat.pow_pos (by decide)), Nat.mul_left_comm, Nat.add_mul_mod_self_left, ih]
/-- the number of the first i of 32 bytes, where it stands -/
def topv (N i : Nat) : Nat := N / 2 ^ (8 * (32 - i)) * 2 ^ (8 * (32 - i))
theorem topv_step {N i : Nat} (hi : i < 32) : topv N (i + 1) = N / 2 ^ (64 * ((31 - i) / 8) + ((31 - i) % 8 * 8 + 8)) * 2 ^ (64 * ((31 - i) / 8) + ((31 - i) % 8 * 8 + 8)) + N / 2 ^ (8 * (31 - i)) % 256 * 2 ^ (64 * ((31 - i) / 8) + (31 - i) % 8 * 8) ∧
    topv N i = N / 2 ^ (64 * ((31 - i) / 8) + ((31 - i) % 8 * 8 + 8)) * 2 ^ (64 * ((31 - i) / 8) + ((31 - i) % 8 * 8 + 8)) := by
  have e1 : 64 * ((31 - i) / 8) + ((31 - i) % 8 * 8 + 8) = 8 * (32 - i) := by omega
  have e2 : 64 * ((31 - i) / 8) + (31 - i) % 8 * 8 = 8 * (31 - i) := by omega
  rw [e1, e2]
  refine ⟨?_, rfl⟩
  unfold topv
  have e3 : 2 ^ (8 * (32 - i)) = 256 * 2 ^ (8 * (31 - i)) := by
    rw [show (256 : Nat) = 2 ^ 8 from rfl, ← Nat.pow_add]; congr 1; omega
  rw [show 32 - (i + 1) = 31 - i by omega, e3, ← Nat.mul_assoc, ← Nat.add_mul, Nat.mul_comm 256, ← Nat.div_div_eq_div_mul]
  congr 1
  exact (Nat.div_add_mod' _ _).symm
theorem topv_word {N i c : Nat} (hi : i < 32) (hc : c = N / 2 ^ (8 * (31 - i)) % 256) (j : Nat) :
    limb (topv N (i + 1)) j = upd (limb (topv N i)) ((31 - i) / 8) (limb (topv N i) ((31 - i) / 8) + c * 2 ^ ((31 - i) % 8 * 8)) j ∧ limb (topv N i) ((31 - i) / 8) % 2 ^ ((31 - i) % 8 * 8 + 8) = 0 := by
  have hcl : c < 256 := by rw [hc]; exact Nat.mod_lt _ (by decide)
  obtain ⟨h1, h2⟩ := topv_step (N := N) hi
  rw [← hc] at h1
  rw [h1, h2]
  refine ⟨?_, (limb_q (Nat.mod_lt _ (by decide)) hcl).2⟩
  by_cases e : j = (31 - i) / 8
  · rw [e, upd_same]; exact (limb_q (Nat.mod_lt _ (by decide)) hcl).1
  · rw [upd_ne _ e]; exact limb_other (Nat.mod_lt _ (by decide)) hcl e
theorem or_top64 {x c r : Nat} (hx : x % 2 ^ (r * 8 + 8) = 0) (hc : c < 256) (hr : r < 8) (hl : x < 2 ^ 64) : bits BinOp.or IntKind.u64 (x : Int) (IntKind.u64.wrap ((c : Int) * 2 ^ (r * 8))) = ((x + c * 2 ^ (r * 8) : Nat) : Int) ∧ x + c * 2 ^ (r * 8) < 2 ^ 64 := by
  have hcs : c * 2 ^ (r * 8) < 2 ^ (r * 8 + 8) := by
    rw [show r * 8 + 8 = 8 + r * 8 by omega, Nat.pow_add 2 8]; exact Nat.mul_lt_mul_of_pos_right hc (Nat.pow_pos (by decide))
  have h2 : 2 ^ (r * 8 + 8) ≤ 2 ^ 64 := Nat.pow_le_pow_right (by decide) (by omega)
  have e : IntKind.u64.wrap ((c : Int) * 2 ^ (r * 8)) = ((c * 2 ^ (r * 8) : Nat) : Int) := by
    rw [show (c : Int) * 2 ^ (r * 8) = ((c * 2 ^ (r * 8) : Nat) : Int) by rw [Int.natCast_mul, Int.natCast_pow]; rfl]
    exact wrap_u64 (by omega)
  have hj : x ||| c * 2 ^ (r * 8) = x + c * 2 ^ (r * 8) := nat_join (r * 8 + 8) _ _ hx hcs
  rw [e, u64_or_nat _ _ (by omega) (by omega), hj]
  refine ⟨rfl, ?_⟩
  rw [← hj]
  exact Nat.or_lt_two_pow hl (by omega)

def RfbRel (f : Nat → Nat) (w : World) (i : Value) (wr : World) : Prop :=
  ∃ k, k ≤ 32 ∧ i = .int .i64 (k : Nat) ∧ Arr .u64 wr w.heap.size 4 (fun _ => 0) ∧ Arr .u64 wr (w.heap.size + 1) 4 (limb (topv (bnum f 32) k)) ∧ Below w.heap.size w wr ∧ w.heap.size + 1 < wr.heap.size

end Go.Proofs.YtoaepgiajooecaaGreat

namespace Go.Proofs.YtoaepgiajooecaaGreat
open Go.RowKit Go.Sort

theorem Il.nil (w : World) (f : Nat → Int) (h : ∀ i, f i < 2 ^ 63) : Il w none 0 f := ⟨h, fun h => absurd h (by omega)⟩
theorem nums_ok_of {f : FuncId} {v : ByteArray} {w : World} (hok : okN v) (h : Calls Tryz.prog f #[.string v] w (NumsAny v w)) :
    Calls Tryz.prog f #[.string v] w fun e w' => (∃ A c, e = .returned (.tuple #[.slice A (v.size / 8) c, .bool true]) ∧ Il w' A (v.size / 8) (chv v)) ∧ Below w.heap.size w w' :=
  h.mono fun e w' ⟨h1, hw⟩ => ⟨by rcases h1 with ⟨_, h2⟩ | ⟨hno, _⟩; exact h2; exact absurd hok hno, hw⟩
theorem nums_no_of {f : FuncId} {v : ByteArray} {w : World} (hok : ¬ okN v) (h : Calls Tryz.prog f #[.string v] w (NumsAny v w)) :
    Calls Tryz.prog f #[.string v] w fun e w' => e = .returned (.tuple #[.slice none 0 0, .bool false]) ∧ Below w.heap.size w w' :=
  h.mono fun e w' ⟨h1, hw⟩ => ⟨by rcases h1 with ⟨hy, _⟩ | ⟨_, h2⟩; exact absurd hy hok; exact h2, hw⟩
/-- a text that is a key -/
def okP (s : ByteArray) : Prop := 0 < s.size ∧ sb s 0 ≠ 0 ∧ okN (s.extract 1 s.size)
noncomputable instance (s : ByteArray) : Decidable (okP s) := Classical.propDecidable _
noncomputable instance (s : ByteArray) : Decidable (okN s) := Classical.propDecidable _
noncomputable def pT (s : ByteArray) : Nat := if okP s then sb s 0 else 0
noncomputable def pN (s : ByteArray) : Nat := if okP s then (s.extract 1 s.size).size / 8 else 0
noncomputable def nN (s : ByteArray) : Nat := if okN s then s.size / 8 else 0
def PAny (s : ByteArray) (w : World) (e : Ending) (w' : World) : Prop :=
  (∃ A c, e = .returned (.tuple #[.int .i64 (pT s : Nat), .slice A (pN s) c, .bool (decide (okP s))]) ∧ Il w' A (pN s) (chv (s.extract 1 s.size))) ∧ Below w.heap.size w w'
theorem pany_no {s : ByteArray} {w w' : World} {e : Ending} (h : ¬ okP s) (he : e = .returned (.tuple #[.int .i64 0, .slice none 0 0, .bool false])) (hw : Below w.heap.size w w') : PAny s w e w' := by
  unfold PAny pT pN
  rw [if_neg h, if_neg h, decide_eq_false h]
  exact ⟨⟨none, 0, he, Il.nil _ _ (chv_lt _)⟩, hw⟩
theorem pany_yes {s : ByteArray} {w w' : World} {e : Ending} (h : okP s) (A : Option Addr) (c : Nat) (he : e = .returned (.tuple #[.int .i64 (sb s 0 : Nat), .slice A ((s.extract 1 s.size).size / 8) c, .bool true])) (il : Il w' A ((s.extract 1 s.size).size / 8) (chv (s.extract 1 s.size))) (hw : Below w.heap.size w w') : PAny s w e w' := by
  unfold PAny pT pN
  rw [if_pos h, if_pos h, decide_eq_true h]
  exact ⟨⟨A, c, he, il⟩, hw⟩
theorem nums_c {f : FuncId} {v : ByteArray} {w : World} (h : Calls Tryz.prog f #[.string v] w (NumsAny v w)) :
    Calls Tryz.prog f #[.string v] w fun e w' => (∃ A c, e = .returned (.tuple #[.slice A (nN v) c, .bool (decide (okN v))]) ∧ Il w' A (nN v) (chv v)) ∧ Below w.heap.size w w' := by
  refine h.mono fun e w' ⟨h1, hw⟩ => ⟨?_, hw⟩
  unfold nN
  rcases h1 with ⟨hy, A, c, he, il⟩ | ⟨hno, he⟩
  · rw [if_pos hy, decide_eq_true hy]; exact ⟨A, c, he, il⟩
  · rw [if_neg hno, decide_eq_false hno]; exact ⟨none, 0, he, Il.nil _ _ (chv_lt _)⟩
end Go.Proofs.YtoaepgiajooecaaGreat

namespace Go.Proofs.YtoaepgiajooecaaGreat
open Go.RowKit Go.Maps Go.Sort

theorem DSTo.pre {w W W1 W2 : World} {m : Nat} {L L' : SL} {R R' : List Ch} (h : DS w W m L R) (hb : Below W.heap.size W W1) (h' : DSTo w W1 W2 m L' R') : DSTo w W W2 m L' R' := (DSTo.of_below h hb).trans h'
theorem snew_other {w W W' : World} {b m : Nat} {F : List Nat} {L L' : SL} {R' : List Ch} {q : Nat} {qs : List Value} (h : SNew w W b F L q qs) (hd : DSTo w W W' m L' R') : SNew w W' b F L q qs := by
  obtain ⟨G, ht, hG⟩ := hd.ex
  exact h.other G ht fun g hg => by
    obtain ⟨h1, cs, T, fr, h2, h3⟩ := hG g hg
    exact ⟨h1, cs, T, fr, h2, h3.1.foreign⟩
theorem ds_live {w W W' : World} {b m : Nat} {F : List Nat} {L L1 L' : SL} {R' : List Ch} {q q1 : Nat} {qs : List Value} (h : DS w W m L' R') (hs : SNew w W b F L q qs) (hl : LiveTo w W W' b F L1 q1) : DS w W' m L' R' := by
  have hl' := hl
  obtain ⟨_, _, _, hn, _⟩ := hl'
  exact h.keep hn.l fun _ hT => LiveTo.keepT hs hl hT.foreign
theorem okN_nil : okN ⟨#[]⟩ := ⟨by decide, fun i hi => by
  have : (⟨#[]⟩ : ByteArray).size / 8 = 0 := by decide
  omega⟩
theorem okN_num {n : Nat} (hn : n < 2 ^ 63) : okN (numStr n) := by
  have h8 := numStr_sizeA (n : Int)
  refine ⟨by rw [h8], fun i hi => ?_⟩
  rw [h8] at hi
  obtain rfl : i = 0 := by omega
  rw [chunk_numStr hn]
  exact hn
set_option maxRecDepth 100000 in
set_option maxHeartbeats 1000000 in
theorem rrow_walk (w W : World) (m : Nat) (L : SL) (R : List Ch) (k v : ByteArray) (h : DS w W m L R) (hr : Rising (skeys L)) (hN : L.length ≤ 1000000) (hv : v = (sget L k).getD ⟨#[]⟩) (hs : v.size ≤ 800) (hok : okN v) :
    Calls Tryz.prog 54 #[.pointer (some ⟨m, 0, none⟩), .string k] W fun e W' => (∃ A c, e = .returned (.slice A (v.size / 8) c) ∧ Il W' A (v.size / 8) (chv v)) ∧ Below W.heap.size W W' := by
  have hG := rget_walk m L k W h.dl hr hN
  rw [← hv] at hG
  obtain ⟨is, his⟩ : ∃ y, y = (sget L k).isSome := ⟨_, rfl⟩
  rw [← his] at hG
  have HG := Lib.hid hG
  have HNm := Lib.hid (nums_ok_of hok (rnums_walk v W hs))
  obtain ⟨n8, hn8⟩ : ∃ y, y = v.size / 8 := ⟨_, rfl⟩
  rw [← hn8] at HNm ⊢
  clear h hr hN hv hs hok hG his hn8
  go_enter Tryz.func54, Tryz.ntmps54
  go_wp2_with (first
    | (go_at_call 75; refine HNm.out.mono ?_; rintro e w2 ⟨⟨A2, C2, rfl, hil⟩, hb2⟩; have H2 := Lib.hid (And.intro hil hb2); clear hil hb2)
    | (go_at_call 74; refine HG.out.mono ?_; rintro e w1 ⟨rfl, rfl⟩))
  go_ret
  exact ⟨⟨A2, C2, rfl, H2.out.1⟩, H2.out.2⟩
set_option maxRecDepth 100000 in
set_option maxHeartbeats 1000000 in
theorem rint_walk (w W : World) (m : Nat) (L : SL) (R : List Ch) (k : ByteArray) (n : Nat) (h : DS w W m L R) (hr : Rising (skeys L)) (hN : L.length ≤ 1000000) (he : intAt L k n) (hn : n < 2 ^ 63) :
    Calls Tryz.prog 49 #[.pointer (some ⟨m, 0, none⟩), .string k] W fun e W' => e = .returned (.int .i64 (n : Nat)) ∧ Below W.heap.size W W' := by
  rcases he with ⟨rfl, he⟩ | he
  · have HR := Lib.hid (rrow_walk w W m L R k ⟨#[]⟩ h hr hN (by rw [he]; rfl) (by decide) okN_nil)
    clear h hr hN he hn
    go_enter Tryz.func49, Tryz.ntmps49
    go_wp2_with (go_at_call 54; refine HR.out.mono ?_; rintro e w2 ⟨⟨A2, C2, rfl, hil⟩, hb2⟩; have H2 := Lib.hid hb2; clear hil hb2)
    go_ret
    exact ⟨rfl, H2.out⟩
  · have h8 := numStr_sizeA (n : Int)
    have hrw := rrow_walk w W m L R k (numStr n) h hr hN (by rw [he]; rfl) (by rw [h8]; decide) (okN_num hn)
    have hch : chv (numStr n) 0 = (n : Int) := by
      unfold chv
      rw [if_pos ⟨by rw [h8]; decide, by rw [chunk_numStr hn]; exact hn⟩, chunk_numStr hn]
    rw [h8] at hrw
    have HR := Lib.hid hrw
    have HC := Lib.hid hch
    clear h hr hN he hn hrw h8 hch
    go_enter Tryz.func49, Tryz.ntmps49
    go_wp2_with (go_at_call 54; refine HR.out.mono ?_; rintro e w2 ⟨⟨A2, C2, he, hil⟩, hb2⟩; obtain ⟨g, o, rfl, _, hcc⟩ := hil.2 (by decide); obtain rfl : e = .returned (.slice (some ⟨g, o, none⟩) 1 C2) := he; have d0 := hcc 0 (by decide); rw [HC.out] at d0; simp only [Nat.add_zero] at d0; have H2 := Lib.hid hb2; clear hil hb2 hcc)
    go_ret
    exact ⟨rfl, H2.out⟩
set_option maxRecDepth 100000 in
set_option maxHeartbeats 1000000 in
theorem rsetInt_walk (w W : World) (m : Nat) (L : SL) (R : List Ch) (k : ByteArray) (n : Int) (h : DS w W m L R) (hr : Rising (skeys L)) (hN : L.length < 1000000) (hR : R.length < 1000000) (hn : n < 2 ^ 63) :
    Calls Tryz.prog 42 #[.pointer (some ⟨m, 0, none⟩), .string k, .int .i64 n] W fun e W' => e = .returned (.tuple #[]) ∧ DSTo w W W' m (if n < 1 then sdel L k else setE L k (numStr n)) (if n < 1 then delR L R k else setR L R k (numStr n)) := by
  by_cases h1 : n < 1
  · rw [if_pos h1, if_pos h1]
    have HD := Lib.hid (rdel_walk w W m L R k h hr hN hR)
    clear h hr hN hR hn
    go_enter Tryz.func42, Tryz.ntmps42
    go_wp2_with (go_at_call 67; refine HD.out.mono ?_; rintro e w2 ⟨rfl, h2⟩; have H2 := Lib.hid h2; clear h2)
    refine bodyPost_ret (v := .tuple #[]) (by simp [results, Tryz.results42, go_sem]) rfl ⟨rfl, H2.out⟩
  · rw [if_neg h1, if_neg h1]
    have HNm := Lib.hid (rnum9_walk n W hn)
    have HS := Lib.hid (fun (W1 : World) (hb : Below W.heap.size W W1) => (rset_walk w W1 m L R k (numStr n) (h.below hb) hr hN hR).mono fun e W' hp => (⟨⟨_, hp.1⟩, DSTo.pre h hb hp.2⟩ : (∃ z, e = .returned (.int .i64 z)) ∧ DSTo w W W' m (setE L k (numStr n)) (setR L R k (numStr n))))
    clear h hr hN hR hn
    go_enter Tryz.func42, Tryz.ntmps42
    go_wp2_with (first
      | (go_at_call 68; refine (HS.out _ H1.out).mono ?_; rintro e w2 ⟨⟨z, rfl⟩, h2⟩; have H2 := Lib.hid h2; clear h2)
      | (go_at_call 69; refine HNm.out.mono ?_; rintro e w1 ⟨rfl, hb1⟩; have H1 := Lib.hid hb1; clear hb1))
    go_end0
    exact ⟨rfl, H2.out⟩
end Go.Proofs.YtoaepgiajooecaaGreat
