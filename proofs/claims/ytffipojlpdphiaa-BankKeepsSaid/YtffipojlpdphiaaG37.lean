/- tallageref01.FromBytes, walked. -/
import Derived.Test.YtffipojlpdphiaaG36
import Derived.Test.YtffipojlpdphiaaG33
import Derived.Test.YtffipojlpdphiaaG31
import Derived.Test.YtffipojlpdphiaaG32
import Derived.Test.YtffipojlpdphiaaG09
namespace Go.Proofs.Ytffipojlpdphiaa
open Go.RowKit Go.Sort

theorem bnum_byte {f : Nat → Nat} (h : ∀ i, f i < 256) : ∀ n m, m < n → bnum f n / 2 ^ (8 * m) % 256 = f (31 - m)
  | 0, m, hm => absurd hm (by omega)
  | n + 1, m, hm => by
    simp only [bnum]
    by_cases e : m = n
    · subst e
      rw [Nat.add_mul_div_right _ _ (Nat.pow_pos (by decide)), Nat.div_eq_of_lt (bnum_lt h m), Nat.zero_add, Nat.mod_eq_of_lt (h _)]
    · have ih := bnum_byte h n m (by omega)
      have e2 : 2 ^ (8 * n) = 2 ^ (8 * m) * (256 * 2 ^ (8 * (n - m - 1))) := by
        rw [show (256 : Nat) = 2 ^ 8 from rfl, ← Nat.pow_add, ← Nat.pow_add]; congr 1; omega
      rw [e2, Nat.mul_left_comm, Nat.add_mul_div_left _ _ (Nat.pow_pos (by decide)), Nat.mul_left_comm, Nat.add_mul_mod_self_left, ih]
/-- the number of the first i of 32 bytes, where it stands -/
def topv (N i : Nat) : Nat := N / 2 ^ (8 * (32 - i)) * 2 ^ (8 * (32 - i))
theorem topv_step {N i : Nat} (hi : i < 32) : topv N (i + 1) = N / 2 ^ (64 * ((31 - i) / 8) + ((31 - i) % 8 * 8 + 8)) * 2 ^ (64 * ((31 - i) / 8) + ((31 - i) % 8 * 8 + 8)) + N / 2 ^ (8 * (31 - i)) % 256 * 2 ^ (64 * ((31 - i) / 8) + (31 - i) % 8 * 8) ∧
    topv N i = N / 2 ^ (64 * ((31 - i) / 8) + ((31 - i) % 8 * 8 + 8)) * 2 ^ (64 * ((31 - i) / 8) + ((31 - i) % 8 * 8 + 8)) := by
  have e1 : 64 * ((31 - i) / 8) + ((31 - i) % 8 * 8 + 8) = 8 * (32 - i) := by omega
  have e2 : 64 * ((31 - i) / 8) + (31 - i) % 8 * 8 = 8 * (31 - i) := by omega
  rw [e1, e2]
  refine ⟨?_, rfl⟩
  unfold topv
  have e3 : 2 ^ (8 * (32 - i)) = 256 * 2 ^ (8 * (31 - i)) := by
    rw [show (256 : Nat) = 2 ^ 8 from rfl, ← Nat.pow_add]; congr 1; omega
  rw [show 32 - (i + 1) = 31 - i by omega, e3, ← Nat.mul_assoc, ← Nat.add_mul, Nat.mul_comm 256, ← Nat.div_div_eq_div_mul]
  congr 1
  exact (Nat.div_add_mod' _ _).symm
theorem topv_word {N i c : Nat} (hi : i < 32) (hc : c = N / 2 ^ (8 * (31 - i)) % 256) (j : Nat) :
    limb (topv N (i + 1)) j = upd (limb (topv N i)) ((31 - i) / 8) (limb (topv N i) ((31 - i) / 8) + c * 2 ^ ((31 - i) % 8 * 8)) j ∧ limb (topv N i) ((31 - i) / 8) % 2 ^ ((31 - i) % 8 * 8 + 8) = 0 := by
  have hcl : c < 256 := by rw [hc]; exact Nat.mod_lt _ (by decide)
  obtain ⟨h1, h2⟩ := topv_step (N := N) hi
  rw [← hc] at h1
  rw [h1, h2]
  refine ⟨?_, (limb_q (Nat.mod_lt _ (by decide)) hcl).2⟩
  by_cases e : j = (31 - i) / 8
  · rw [e, upd_same]; exact (limb_q (Nat.mod_lt _ (by decide)) hcl).1
  · rw [upd_ne _ e]; exact limb_other (Nat.mod_lt _ (by decide)) hcl e
theorem or_top64 {x c r : Nat} (hx : x % 2 ^ (r * 8 + 8) = 0) (hc : c < 256) (hr : r < 8) (hl : x < 2 ^ 64) : bits BinOp.or IntKind.u64 (x : Int) (IntKind.u64.wrap ((c : Int) * 2 ^ (r * 8))) = ((x + c * 2 ^ (r * 8) : Nat) : Int) ∧ x + c * 2 ^ (r * 8) < 2 ^ 64 := by
  have hcs : c * 2 ^ (r * 8) < 2 ^ (r * 8 + 8) := by
    rw [show r * 8 + 8 = 8 + r * 8 by omega, Nat.pow_add 2 8]; exact Nat.mul_lt_mul_of_pos_right hc (Nat.pow_pos (by decide))
  have h2 : 2 ^ (r * 8 + 8) ≤ 2 ^ 64 := Nat.pow_le_pow_right (by decide) (by omega)
  have e : IntKind.u64.wrap ((c : Int) * 2 ^ (r * 8)) = ((c * 2 ^ (r * 8) : Nat) : Int) := by
    rw [show (c : Int) * 2 ^ (r * 8) = ((c * 2 ^ (r * 8) : Nat) : Int) by rw [Int.natCast_mul, Int.natCast_pow]; rfl]
    exact wrap_u64 (by omega)
  have hj : x ||| c * 2 ^ (r * 8) = x + c * 2 ^ (r * 8) := nat_join (r * 8 + 8) _ _ hx hcs
  rw [e, u64_or_nat _ _ (by omega) (by omega), hj]
  refine ⟨rfl, ?_⟩
  rw [← hj]
  exact Nat.or_lt_two_pow hl (by omega)

def RfbRel (f : Nat → Nat) (w : World) (i : Value) (wr : World) : Prop :=
  ∃ k, k ≤ 32 ∧ i = .int .i64 (k : Nat) ∧ Arr .u64 wr w.heap.size 4 (fun _ => 0) ∧ Arr .u64 wr (w.heap.size + 1) 4 (limb (topv (bnum f 32) k)) ∧ Below w.heap.size w wr ∧ w.heap.size + 1 < wr.heap.size

set_option maxRecDepth 100000 in
set_option maxHeartbeats 1000000 in
theorem rfb_walk (A : Option Addr) (n c : Nat) (f : Nat → Nat) (w : World) (hs : Sl w A n f) : Calls Try.prog 157 #[.slice A n c] w (FbPost n f w) := by
  by_cases hn : n = 32
  · have ht : ((n : Int) != 32) = false := by rw [hn]; rfl
    obtain ⟨g, o, rfl, hg, hc⟩ := hs.at_ (by omega)
    have Hs := Lib.hid hs.small
    have Hn := Lib.hid hn
    have Hc := Lib.hid hc
    clear hs hc
    subst hn
    go_enter Try.func157, Try.ntmps157
    go_wp2
    go_loopw [14] (RfbRel f w) (fun i _ => 32 - (intOf i).toNat)
    case atStart =>
      refine ⟨0, by omega, rfl, (Arr.new4 (f := fun _ => 0) rfl).alloc _, (Arr.new4 (f := fun _ => 0) (by simp)).congr fun i _ => ?_, ((Below.refl _ _).alloc (Nat.le_refl _) _).alloc (by simp only [World.size_alloc]; omega) _, by simp⟩
      have h0 : topv (bnum f 32) 0 = 0 := by unfold topv; rw [Nat.div_eq_of_lt (bnum_lt Hs.out 32), Nat.zero_mul]
      rw [h0]; simp [limb]
    case round =>
      obtain ⟨k, hk, rfl, hz, ha, hbel, hsz⟩ := hrel
      by_cases hlt : k < 32
      · obtain ⟨N, hN⟩ : ∃ N, N = bnum f 32 := ⟨_, rfl⟩
        rw [← hN] at ha
        have hby := bnum_byte Hs.out 32 (31 - k) (by omega)
        rw [← hN, show 31 - (31 - k) = k by omega] at hby
        have lb := topv_word (N := N) hlt hby.symm
        have hl0 := limb_lt (topv N k) ((31 - k) / 8)
        obtain ⟨q, hq⟩ : ∃ q, q = (31 - k) / 8 := ⟨_, rfl⟩
        obtain ⟨r, hr⟩ : ∃ r, r = (31 - k) % 8 := ⟨_, rfl⟩
        rw [← hq, ← hr] at lb
        rw [← hq] at hl0
        have e1 : ((31 : Int) - (k : Int)).tdiv 8 = (q : Int) := by rw [Int.tdiv_eq_ediv_of_nonneg (by omega)]; omega
        have e2 : ((31 : Int) - (k : Int)).tmod 8 = (r : Int) := by rw [Int.tmod_eq_emod_of_nonneg (by omega)]; omega
        have e3 : ((31 : Int) - (k : Int)) / 8 = (q : Int) := by omega
        have hq4 : q < 4 := by omega
        have q7 : (q : Int) < 4 := by omega
        have hr8 : r < 8 := by omega
        have a1 := ha.cell q hq4
        have f1 := ha.free q hq4
        have b1 : wr.cell? ⟨g, o + k, none⟩ = some (.int .u8 (f k : Nat)) := by rw [hbel.cell (p := ⟨g, o + k, none⟩) hg]; exact Hc.out _ (by omega)
        have o1 := or_top64 (lb 0).2 (Hs.out k) hr8 hl0
        obtain ⟨nw, hnw⟩ : ∃ x, x = limb (topv N k) q + f k * 2 ^ (r * 8) := ⟨_, rfl⟩
        rw [← hnw] at o1
        have o2 : bits BinOp.or IntKind.u64 (limb (topv N k) q : Int) (IntKind.u64.wrap ((f k : Int) * 2 ^ (8 * r))) = (nw : Int) := by rw [Nat.mul_comm 8 r]; exact o1.1
        have i1 : IntKind.i64.wrap (31 - (k : Int)) = 31 - (k : Int) := IntWalk.i64_in _ (by omega)
        have i4 : IntKind.i64.wrap (8 * (r : Int)) = 8 * (r : Int) := IntWalk.i64_in _ (by omega)
        have i5 : IntKind.u64.wrap (8 * (r : Int)) = 8 * (r : Int) := IntWalk.u64_in _ (by omega)
        have i6 : (8 * (r : Int)).toNat = 8 * r := by omega
        have w1 : IntKind.u64.wrap (f k : Int) = (f k : Int) := IntWalk.u64_in _ (by have := Hs.out k; omega)
        have k32 : (k : Int) < 32 := by omega
        have Lb := Lib.hid lb
        have Hnw := Lib.hid hnw
        have HN := Lib.hid hN
        clear hq hr lb hnw o1 hby hN hl0
        go_wp2
        refine ⟨⟨k + 1, by omega, by go_num, hz.set_far (by omega), (ha.set hq4).congr fun i hi => ?_, hbel.setCell (by simp) _, by rw [World.size_setCell]; exact hsz⟩, by simp [intOf]; omega⟩
        rw [← HN.out, (Lb.out i).1, Hnw.out]
      · obtain rfl : k = 32 := by omega
        obtain ⟨v, hv⟩ : ∃ v, v = bnum f 32 := ⟨_, rfl⟩
        have htv : topv (bnum f 32) 32 = v := by rw [hv]; unfold topv; rw [Nat.sub_self, Nat.mul_zero, Nat.pow_zero, Nat.div_one, Nat.mul_one]
        rw [htv] at ha
        have Hv := Lib.hid hv
        clear hv htv
        obtain ⟨s0, s1, s2, s3⟩ := ha.cells4
        obtain ⟨y0, y1, y2, y3⟩ := hz.frees4
        obtain ⟨z0, z1, z2, z3⟩ := hz.cells4
        go_wp2
        refine bodyPost_ret (v := .tuple #[.agg #[.int .u64 (limb v 0 : Nat), .int .u64 (limb v 1 : Nat), .int .u64 (limb v 2 : Nat), .int .u64 (limb v 3 : Nat)], .bool true]) (by simp [results, Try.results157, go_sem, z0, z1, z2, z3]) rfl (fbPost_yes rfl (by rw [← Hv.out]; rfl) (below_set4 hbel (by omega)))
  · have ht : ((n : Int) != 32) = true := by rw [bne_iff_ne]; omega
    have Hn := Lib.hid hn
    clear hn
    go_enter Try.func157, Try.ntmps157
    go_wp2
    refine bodyPost_ret (v := .tuple #[.agg #[.int .u64 0, .int .u64 0, .int .u64 0, .int .u64 0], .bool false]) (by simp [results, Try.results157, go_sem]) rfl (fbPost_no Hn.out (by rw [U_zero]) ?_)
    exact ((Below.refl _ _).alloc (Nat.le_refl _) _).alloc (by simp only [World.size_alloc]; omega) _
end Go.Proofs.Ytffipojlpdphiaa

namespace Go.Proofs.Ytffipojlpdphiaa
open Go.RowKit Go.Sort

theorem Il.nil (w : World) (f : Nat → Int) (h : ∀ i, f i < 2 ^ 63) : Il w none 0 f := ⟨h, fun h => absurd h (by omega)⟩
theorem nums_ok_of {f : FuncId} {v : ByteArray} {w : World} (hok : okN v) (h : Calls Try.prog f #[.string v] w (NumsAny v w)) :
    Calls Try.prog f #[.string v] w fun e w' => (∃ A c, e = .returned (.tuple #[.slice A (v.size / 8) c, .bool true]) ∧ Il w' A (v.size / 8) (chv v)) ∧ Below w.heap.size w w' :=
  h.mono fun e w' ⟨h1, hw⟩ => ⟨by rcases h1 with ⟨_, h2⟩ | ⟨hno, _⟩; exact h2; exact absurd hok hno, hw⟩
theorem nums_no_of {f : FuncId} {v : ByteArray} {w : World} (hok : ¬ okN v) (h : Calls Try.prog f #[.string v] w (NumsAny v w)) :
    Calls Try.prog f #[.string v] w fun e w' => e = .returned (.tuple #[.slice none 0 0, .bool false]) ∧ Below w.heap.size w w' :=
  h.mono fun e w' ⟨h1, hw⟩ => ⟨by rcases h1 with ⟨hy, _⟩ | ⟨_, h2⟩; exact absurd hy hok; exact h2, hw⟩
/-- a text that is a key -/
def okP (s : ByteArray) : Prop := 0 < s.size ∧ sb s 0 ≠ 0 ∧ okN (s.extract 1 s.size)
noncomputable instance (s : ByteArray) : Decidable (okP s) := Classical.propDecidable _
noncomputable instance (s : ByteArray) : Decidable (okN s) := Classical.propDecidable _
noncomputable def pT (s : ByteArray) : Nat := if okP s then sb s 0 else 0
noncomputable def pN (s : ByteArray) : Nat := if okP s then (s.extract 1 s.size).size / 8 else 0
noncomputable def nN (s : ByteArray) : Nat := if okN s then s.size / 8 else 0
def PAny (s : ByteArray) (w : World) (e : Ending) (w' : World) : Prop :=
  (∃ A c, e = .returned (.tuple #[.int .i64 (pT s : Nat), .slice A (pN s) c, .bool (decide (okP s))]) ∧ Il w' A (pN s) (chv (s.extract 1 s.size))) ∧ Below w.heap.size w w'
theorem pany_no {s : ByteArray} {w w' : World} {e : Ending} (h : ¬ okP s) (he : e = .returned (.tuple #[.int .i64 0, .slice none 0 0, .bool false])) (hw : Below w.heap.size w w') : PAny s w e w' := by
  unfold PAny pT pN
  rw [if_neg h, if_neg h, decide_eq_false h]
  exact ⟨⟨none, 0, he, Il.nil _ _ (chv_lt _)⟩, hw⟩
theorem pany_yes {s : ByteArray} {w w' : World} {e : Ending} (h : okP s) (A : Option Addr) (c : Nat) (he : e = .returned (.tuple #[.int .i64 (sb s 0 : Nat), .slice A ((s.extract 1 s.size).size / 8) c, .bool true])) (il : Il w' A ((s.extract 1 s.size).size / 8) (chv (s.extract 1 s.size))) (hw : Below w.heap.size w w') : PAny s w e w' := by
  unfold PAny pT pN
  rw [if_pos h, if_pos h, decide_eq_true h]
  exact ⟨⟨A, c, he, il⟩, hw⟩
theorem nums_c {f : FuncId} {v : ByteArray} {w : World} (h : Calls Try.prog f #[.string v] w (NumsAny v w)) :
    Calls Try.prog f #[.string v] w fun e w' => (∃ A c, e = .returned (.tuple #[.slice A (nN v) c, .bool (decide (okN v))]) ∧ Il w' A (nN v) (chv v)) ∧ Below w.heap.size w w' := by
  refine h.mono fun e w' ⟨h1, hw⟩ => ⟨?_, hw⟩
  unfold nN
  rcases h1 with ⟨hy, A, c, he, il⟩ | ⟨hno, he⟩
  · rw [if_pos hy, decide_eq_true hy]; exact ⟨A, c, he, il⟩
  · rw [if_neg hno, decide_eq_false hno]; exact ⟨none, 0, he, Il.nil _ _ (chv_lt _)⟩
set_option maxRecDepth 100000 in
set_option maxHeartbeats 1000000 in
theorem parseAny_walk (s : ByteArray) (w : World) (hs : s.size ≤ 800) : Calls Try.prog 127 #[.string s] w (PAny s w) := by
  by_cases h0 : s.size = 0
  · have e0 : s.toList.isEmpty = true := by
      rw [ByteArray.toList_eq, List.isEmpty_iff]
      exact List.eq_nil_of_length_eq_zero h0
    have e1 : ((s.size : Int) == 0) = true := by rw [beq_iff_eq]; omega
    have hno := Lib.hid (show ¬ okP s from fun h => by have := h.1; omega)
    have Il0 := Lib.hid (Il.nil w (chv (s.extract 1 s.size)) (chv_lt _))
    clear h0
    go_enter Try.func127, Try.ntmps127
    go_wp2
    refine bodyPost_ret (v := .tuple #[.int .i64 0, .slice none 0 0, .bool false]) (by simp [results, Try.results127, go_sem]) rfl (pany_no hno.out rfl (Below.refl _ _))
  · have e0 : s.toList.isEmpty = false := by
      rw [ByteArray.toList_eq, List.isEmpty_eq_false_iff]
      intro e
      exact h0 (congrArg List.length e)
    have e1 : ((s.size : Int) == 0) = false := by rw [beq_eq_false_iff_ne]; omega
    have hp : 0 < s.size := by omega
    obtain ⟨t, ht⟩ : ∃ t, t = (s[0]'hp).toNat := ⟨_, rfl⟩
    have ht' := ht.symm
    have htb : t < 256 := by rw [ht]; exact UInt8.toNat_lt _
    have htsb : sb s 0 = t := by unfold sb; rw [dif_pos (show 0 < s.data.size from hp)]; exact ht'
    clear ht
    by_cases ht0 : t = 0
    · have b1 : ((t : Int) == 0) = true := by rw [beq_iff_eq]; omega
      have hno := Lib.hid (show ¬ okP s from fun h => h.2.1 (by rw [htsb]; exact ht0))
      clear ht0 h0
      go_enter Try.func127, Try.ntmps127
      go_wp2
      refine bodyPost_ret (v := .tuple #[.int .i64 0, .slice none 0 0, .bool false]) (by simp [results, Try.results127, go_sem]) rfl (pany_no hno.out rfl (Below.refl _ _))
    · have b1 : ((t : Int) == 0) = false := by rw [beq_eq_false_iff_ne]; omega
      have b2 : IntKind.i64.wrap (t : Int) = (t : Int) := IntWalk.i64_in _ (by omega)
      have HN := Lib.hid (fun w => numsAny_walk (s.extract 1 s.size) w (by rw [ByteArray.size_extract]; omega))
      have Htsb := Lib.hid htsb
      have Ht0 := Lib.hid ht0
      clear ht0 h0 htsb
      by_cases hok : okN (s.extract 1 s.size)
      · have hyes := Lib.hid (show okP s from ⟨hp, by rw [Htsb.out]; exact Ht0.out, hok⟩)
        have Hok := Lib.hid hok
        clear hok
        go_enter Try.func127, Try.ntmps127
        go_wp2_with (go_at_call 129; refine (nums_ok_of Hok.out (HN.out _)).mono ?_; rintro e w1 ⟨⟨A, c, rfl, il⟩, hb1⟩)
        refine bodyPost_ret (v := .tuple #[.int .i64 (t : Nat), .slice A ((s.extract 1 s.size).size / 8) c, .bool true]) (by simp [results, Try.results127, go_sem]) rfl (pany_yes hyes.out A c (by rw [Htsb.out]) il hb1)
      · have hno := Lib.hid (show ¬ okP s from fun h => hok h.2.2)
        have Hok := Lib.hid hok
        clear hok
        go_enter Try.func127, Try.ntmps127
        go_wp2_with (go_at_call 129; refine (nums_no_of Hok.out (HN.out _)).mono ?_; rintro e w1 ⟨rfl, hb1⟩)
        refine bodyPost_ret (v := .tuple #[.int .i64 0, .slice none 0 0, .bool false]) (by simp [results, Try.results127, go_sem]) rfl (pany_no hno.out rfl hb1)
set_option maxRecDepth 100000 in
set_option maxHeartbeats 1000000 in
theorem rparseAny_walk (s : ByteArray) (w : World) (hs : s.size ≤ 800) : Calls Try.prog 107 #[.string s] w (PAny s w) := by
  by_cases h0 : s.size = 0
  · have e0 : s.toList.isEmpty = true := by
      rw [ByteArray.toList_eq, List.isEmpty_iff]
      exact List.eq_nil_of_length_eq_zero h0
    have e1 : ((s.size : Int) == 0) = true := by rw [beq_iff_eq]; omega
    have hno := Lib.hid (show ¬ okP s from fun h => by have := h.1; omega)
    have Il0 := Lib.hid (Il.nil w (chv (s.extract 1 s.size)) (chv_lt _))
    clear h0
    go_enter Try.func107, Try.ntmps107
    go_wp2
    refine bodyPost_ret (v := .tuple #[.int .i64 0, .slice none 0 0, .bool false]) (by simp [results, Try.results107, go_sem]) rfl (pany_no hno.out rfl (Below.refl _ _))
  · have e0 : s.toList.isEmpty = false := by
      rw [ByteArray.toList_eq, List.isEmpty_eq_false_iff]
      intro e
      exact h0 (congrArg List.length e)
    have e1 : ((s.size : Int) == 0) = false := by rw [beq_eq_false_iff_ne]; omega
    have hp : 0 < s.size := by omega
    obtain ⟨t, ht⟩ : ∃ t, t = (s[0]'hp).toNat := ⟨_, rfl⟩
    have ht' := ht.symm
    have htb : t < 256 := by rw [ht]; exact UInt8.toNat_lt _
    have htsb : sb s 0 = t := by unfold sb; rw [dif_pos (show 0 < s.data.size from hp)]; exact ht'
    clear ht
    by_cases ht0 : t = 0
    · have b1 : ((t : Int) == 0) = true := by rw [beq_iff_eq]; omega
      have hno := Lib.hid (show ¬ okP s from fun h => h.2.1 (by rw [htsb]; exact ht0))
      clear ht0 h0
      go_enter Try.func107, Try.ntmps107
      go_wp2
      refine bodyPost_ret (v := .tuple #[.int .i64 0, .slice none 0 0, .bool false]) (by simp [results, Try.results107, go_sem]) rfl (pany_no hno.out rfl (Below.refl _ _))
    · have b1 : ((t : Int) == 0) = false := by rw [beq_eq_false_iff_ne]; omega
      have b2 : IntKind.i64.wrap (t : Int) = (t : Int) := IntWalk.i64_in _ (by omega)
      have HN := Lib.hid (fun w => rnums_walk (s.extract 1 s.size) w (by rw [ByteArray.size_extract]; omega))
      have Htsb := Lib.hid htsb
      have Ht0 := Lib.hid ht0
      clear ht0 h0 htsb
      by_cases hok : okN (s.extract 1 s.size)
      · have hyes := Lib.hid (show okP s from ⟨hp, by rw [Htsb.out]; exact Ht0.out, hok⟩)
        have Hok := Lib.hid hok
        clear hok
        go_enter Try.func107, Try.ntmps107
        go_wp2_with (go_at_call 133; refine (nums_ok_of Hok.out (HN.out _)).mono ?_; rintro e w1 ⟨⟨A, c, rfl, il⟩, hb1⟩)
        refine bodyPost_ret (v := .tuple #[.int .i64 (t : Nat), .slice A ((s.extract 1 s.size).size / 8) c, .bool true]) (by simp [results, Try.results107, go_sem]) rfl (pany_yes hyes.out A c (by rw [Htsb.out]) il hb1)
      · have hno := Lib.hid (show ¬ okP s from fun h => hok h.2.2)
        have Hok := Lib.hid hok
        clear hok
        go_enter Try.func107, Try.ntmps107
        go_wp2_with (go_at_call 133; refine (nums_no_of Hok.out (HN.out _)).mono ?_; rintro e w1 ⟨rfl, hb1⟩)
        refine bodyPost_ret (v := .tuple #[.int .i64 0, .slice none 0 0, .bool false]) (by simp [results, Try.results107, go_sem]) rfl (pany_no hno.out rfl hb1)
theorem rfb_c (A : Option Addr) (c x : Nat) (ok : Bool) (s : ByteArray) (w : World) (hs : Sl w A s.size (sb s)) (hx : fbv s = x) (hok : decide (s.size = 32) = ok) : Calls Try.prog 157 #[.slice A s.size c] w fun e w' => e = .returned (.tuple #[U x, .bool ok]) ∧ Below w.heap.size w w' := by
  rw [← hx, ← hok]; exact rfb_walk A s.size c (sb s) w hs
set_option maxRecDepth 100000 in
set_option maxHeartbeats 1000000 in
theorem rtoAmount_walk (s : ByteArray) (x : Nat) (ok : Bool) (w : World) (hx : fbv s = x) (hok : decide (s.size = 32) = ok) : Calls Try.prog 98 #[.string s] w fun e w' => e = .returned (.tuple #[U x, .bool ok]) ∧ Below w.heap.size w w' := by
  have hcv := fun w s => run_bytes_of_string (P := Try.prog) w 9 191 5 s Try.underlying9 Try.underlying191 Try.underlying5
  have Hx := Lib.hid hx
  have Hok := Lib.hid hok
  clear hx hok
  have z0 := (Arr.new4 (κ := .u64) (w := w) (t := 52) (f := fun _ => 0) (b := w.heap.size) rfl)
  have Z0 := Lib.hid z0
  clear z0
  unfold U
  go_enter Try.func98, Try.ntmps98
  go_wp2_with (go_at_call 157; refine (rfb_c (some ⟨w.heap.size + 1, 0, none⟩) _ x ok s _ (sl_conv s (w.alloc (.cells #[.int .u64 0, .int .u64 0, .int .u64 0, .int .u64 0] 52)) _ _ _ _ _ (by simp)) Hx.out Hok.out).mono ?_; rintro e w1 ⟨rfl, hb1⟩; have z1 := ((Z0.out.alloc _).drew).below hb1 (by show w.heap.size < ((w.alloc _).alloc _).heap.size; simp only [World.size_alloc]; omega); obtain ⟨f0, f1, f2, f3⟩ := z1.frees4; obtain ⟨c0, c1, c2, c3⟩ := z1.cells4; unfold U)
  refine bodyPost_ret (v := .tuple #[.agg #[.int .u64 (limb x 0 : Nat), .int .u64 (limb x 1 : Nat), .int .u64 (limb x 2 : Nat), .int .u64 (limb x 3 : Nat)], .bool ok]) (by simp [results, Try.results98, go_sem, c0, c1, c2, c3]) rfl ⟨rfl, below_set4 ((below_drewN (((Below.refl _ _).alloc (Nat.le_refl _) _).alloc (by simp) _) 1).trans (hb1.mono (by show w.heap.size ≤ ((w.alloc _).alloc _).heap.size; simp only [World.size_alloc]; omega))) (Nat.le_refl _)⟩
set_option maxRecDepth 100000 in
theorem table_walk (t : Int) (w : World) : Calls Try.prog 63 #[.int .i64 t] w fun e w' => e = .returned (.string (keyStr t (fun _ => 0) 0)) ∧ Below w.heap.size w w' := by
  have hk := Lib.hid (fun w => key_walk t none 0 0 (fun _ => 0) w (Il.nil w _ (fun _ => by decide)) (by omega))
  go_enter Try.func63, Try.ntmps63
  go_wp2_with (go_at_call 72; refine (hk.out _).mono ?_; rintro e w1 ⟨rfl, hb1⟩)
  go_ret
  exact ⟨rfl, hb1⟩
end Go.Proofs.Ytffipojlpdphiaa

namespace Go.Proofs.Ytffipojlpdphiaa
open Go.RowKit Go.Maps Go.Sort

theorem DSTo.pre {w W W1 W2 : World} {m : Nat} {L L' : SL} {R R' : List Ch} (h : DS w W m L R) (hb : Below W.heap.size W W1) (h' : DSTo w W1 W2 m L' R') : DSTo w W W2 m L' R' := (DSTo.of_below h hb).trans h'
theorem snew_other {w W W' : World} {b m : Nat} {F : List Nat} {L L' : SL} {R' : List Ch} {q : Nat} {qs : List Value} (h : SNew w W b F L q qs) (hd : DSTo w W W' m L' R') : SNew w W' b F L q qs := by
  obtain ⟨G, ht, hG⟩ := hd.ex
  exact h.other G ht fun g hg => by
    obtain ⟨h1, cs, T, fr, h2, h3⟩ := hG g hg
    exact ⟨h1, cs, T, fr, h2, h3.1.foreign⟩
theorem ds_live {w W W' : World} {b m : Nat} {F : List Nat} {L L1 L' : SL} {R' : List Ch} {q q1 : Nat} {qs : List Value} (h : DS w W m L' R') (hs : SNew w W b F L q qs) (hl : LiveTo w W W' b F L1 q1) : DS w W' m L' R' := by
  have hl' := hl
  obtain ⟨_, _, _, hn, _⟩ := hl'
  exact h.keep hn.l fun _ hT => LiveTo.keepT hs hl hT.foreign
theorem okN_nil : okN ⟨#[]⟩ := ⟨by decide, fun i hi => by
  have : (⟨#[]⟩ : ByteArray).size / 8 = 0 := by decide
  omega⟩
theorem okN_num {n : Nat} (hn : n < 2 ^ 63) : okN (numStr n) := by
  have h8 := numStr_sizeA (n : Int)
  refine ⟨by rw [h8], fun i hi => ?_⟩
  rw [h8] at hi
  obtain rfl : i = 0 := by omega
  rw [chunk_numStr hn]
  exact hn
set_option maxRecDepth 100000 in
set_option maxHeartbeats 1000000 in
theorem rrow_walk (w W : World) (m : Nat) (L : SL) (R : List Ch) (k v : ByteArray) (h : DS w W m L R) (hr : Rising (skeys L)) (hN : L.length ≤ 1000000) (hv : v = (sget L k).getD ⟨#[]⟩) (hs : v.size ≤ 800) (hok : okN v) :
    Calls Try.prog 126 #[.pointer (some ⟨m, 0, none⟩), .string k] W fun e W' => (∃ A c, e = .returned (.slice A (v.size / 8) c) ∧ Il W' A (v.size / 8) (chv v)) ∧ Below W.heap.size W W' := by
  have hG := rget_walk m L k W h.dl hr hN
  rw [← hv] at hG
  obtain ⟨is, his⟩ : ∃ y, y = (sget L k).isSome := ⟨_, rfl⟩
  rw [← his] at hG
  have HG := Lib.hid hG
  have HNm := Lib.hid (nums_ok_of hok (rnums_walk v W hs))
  obtain ⟨n8, hn8⟩ : ∃ y, y = v.size / 8 := ⟨_, rfl⟩
  rw [← hn8] at HNm ⊢
  clear h hr hN hv hs hok hG his hn8
  go_enter Try.func126, Try.ntmps126
  go_wp2_with (first
    | (go_at_call 133; refine HNm.out.mono ?_; rintro e w2 ⟨⟨A2, C2, rfl, hil⟩, hb2⟩; have H2 := Lib.hid (And.intro hil hb2); clear hil hb2)
    | (go_at_call 97; refine HG.out.mono ?_; rintro e w1 ⟨rfl, rfl⟩))
  go_ret
  exact ⟨⟨A2, C2, rfl, H2.out.1⟩, H2.out.2⟩
set_option maxRecDepth 100000 in
set_option maxHeartbeats 1000000 in
theorem rint_walk (w W : World) (m : Nat) (L : SL) (R : List Ch) (k : ByteArray) (n : Nat) (h : DS w W m L R) (hr : Rising (skeys L)) (hN : L.length ≤ 1000000) (he : intAt L k n) (hn : n < 2 ^ 63) :
    Calls Try.prog 78 #[.pointer (some ⟨m, 0, none⟩), .string k] W fun e W' => e = .returned (.int .i64 (n : Nat)) ∧ Below W.heap.size W W' := by
  rcases he with ⟨rfl, he⟩ | he
  · have HR := Lib.hid (rrow_walk w W m L R k ⟨#[]⟩ h hr hN (by rw [he]; rfl) (by decide) okN_nil)
    clear h hr hN he hn
    go_enter Try.func78, Try.ntmps78
    go_wp2_with (go_at_call 126; refine HR.out.mono ?_; rintro e w2 ⟨⟨A2, C2, rfl, hil⟩, hb2⟩; have H2 := Lib.hid hb2; clear hil hb2)
    go_ret
    exact ⟨rfl, H2.out⟩
  · have h8 := numStr_sizeA (n : Int)
    have hrw := rrow_walk w W m L R k (numStr n) h hr hN (by rw [he]; rfl) (by rw [h8]; decide) (okN_num hn)
    have hch : chv (numStr n) 0 = (n : Int) := by
      unfold chv
      rw [if_pos ⟨by rw [h8]; decide, by rw [chunk_numStr hn]; exact hn⟩, chunk_numStr hn]
    rw [h8] at hrw
    have HR := Lib.hid hrw
    have HC := Lib.hid hch
    clear h hr hN he hn hrw h8 hch
    go_enter Try.func78, Try.ntmps78
    go_wp2_with (go_at_call 126; refine HR.out.mono ?_; rintro e w2 ⟨⟨A2, C2, he, hil⟩, hb2⟩; obtain ⟨g, o, rfl, _, hcc⟩ := hil.2 (by decide); obtain rfl : e = .returned (.slice (some ⟨g, o, none⟩) 1 C2) := he; have d0 := hcc 0 (by decide); rw [HC.out] at d0; simp only [Nat.add_zero] at d0; have H2 := Lib.hid hb2; clear hil hb2 hcc)
    go_ret
    exact ⟨rfl, H2.out⟩
set_option maxRecDepth 100000 in
set_option maxHeartbeats 1000000 in
theorem rsetInt_walk (w W : World) (m : Nat) (L : SL) (R : List Ch) (k : ByteArray) (n : Int) (h : DS w W m L R) (hr : Rising (skeys L)) (hN : L.length < 1000000) (hR : R.length < 1000000) (hn : n < 2 ^ 63) :
    Calls Try.prog 69 #[.pointer (some ⟨m, 0, none⟩), .string k, .int .i64 n] W fun e W' => e = .returned (.tuple #[]) ∧ DSTo w W W' m (if n < 1 then sdel L k else setE L k (numStr n)) (if n < 1 then delR L R k else setR L R k (numStr n)) := by
  by_cases h1 : n < 1
  · rw [if_pos h1, if_pos h1]
    have HD := Lib.hid (rdel_walk w W m L R k h hr hN hR)
    clear h hr hN hR hn
    go_enter Try.func69, Try.ntmps69
    go_wp2_with (go_at_call 67; refine HD.out.mono ?_; rintro e w2 ⟨rfl, h2⟩; have H2 := Lib.hid h2; clear h2)
    refine bodyPost_ret (v := .tuple #[]) (by simp [results, Try.results69, go_sem]) rfl ⟨rfl, H2.out⟩
  · rw [if_neg h1, if_neg h1]
    have HNm := Lib.hid (rnum9_walk n W hn)
    have HS := Lib.hid (fun (W1 : World) (hb : Below W.heap.size W W1) => (rset_walk w W1 m L R k (numStr n) (h.below hb) hr hN hR).mono fun e W' hp => (⟨⟨_, hp.1⟩, DSTo.pre h hb hp.2⟩ : (∃ z, e = .returned (.int .i64 z)) ∧ DSTo w W W' m (setE L k (numStr n)) (setR L R k (numStr n))))
    clear h hr hN hR hn
    go_enter Try.func69, Try.ntmps69
    go_wp2_with (first
      | (go_at_call 136; refine (HS.out _ H1.out).mono ?_; rintro e w2 ⟨⟨z, rfl⟩, h2⟩; have H2 := Lib.hid h2; clear h2)
      | (go_at_call 135; refine HNm.out.mono ?_; rintro e w1 ⟨rfl, hb1⟩; have H1 := Lib.hid hb1; clear hb1))
    go_end0
    exact ⟨rfl, H2.out⟩
end Go.Proofs.Ytffipojlpdphiaa
