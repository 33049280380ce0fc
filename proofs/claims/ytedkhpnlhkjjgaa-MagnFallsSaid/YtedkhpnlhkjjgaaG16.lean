/- u256.FromBytes, walked. -/
import Derived.Test.YtedkhpnlhkjjgaaG15
import Derived.Test.YtedkhpnlhkjjgaaG03
import Derived.Test.YtedkhpnlhkjjgaaG09
import Derived.Laws.IdiomStrings
import Derived.Test.YtedkhpnlhkjjgaaG13
import Derived.Test.YtedkhpnlhkjjgaaG14
import Derived.Lib.QuietBelow
namespace Go.Proofs.Ytedkhpnlhkjjgaa
open Go.RowKit

/-- the number of the last k of 32 bytes, the greatest first -/
def bnum (f : Nat → Nat) : Nat → Nat
  | 0 => 0
  | k + 1 => bnum f k + f (31 - k) * 2 ^ (8 * k)
theorem bnum_lt {f : Nat → Nat} (h : ∀ i, f i < 256) : ∀ k, bnum f k < 2 ^ (8 * k)
  | 0 => by simp [bnum]
  | k + 1 => by
    have h1 := bnum_lt h k
    have h2 : f (31 - k) + 1 ≤ 2 ^ 8 := h (31 - k)
    have h3 := Nat.mul_le_mul_right (2 ^ (8 * k)) h2
    have h4 : 2 ^ (8 * (k + 1)) = 2 ^ 8 * 2 ^ (8 * k) := by rw [← Nat.pow_add]; congr 1; omega
    simp only [bnum]; rw [h4]; rw [Nat.add_mul] at h3; omega
/-- one byte more: what becomes of the words -/
theorem limb_byte {v x k : Nat} (hv : v < 2 ^ (8 * k)) (hx : x < 256) (i : Nat) :
    limb (v + x * 2 ^ (8 * k)) i = upd (limb v) (k / 8) (limb v (k / 8) + x * 2 ^ (k % 8 * 8)) i ∧ limb v (k / 8) < 2 ^ (k % 8 * 8) := by
  have hk : 2 ^ (8 * k) = 2 ^ (64 * (k / 8)) * 2 ^ (k % 8 * 8) := by rw [← Nat.pow_add]; congr 1; omega
  have hp : 0 < 2 ^ (64 * (k / 8)) := Nat.pow_pos (by decide)
  have hlow : v / 2 ^ (64 * (k / 8)) < 2 ^ (k % 8 * 8) := (Nat.div_lt_iff_lt_mul hp).2 (by rw [Nat.mul_comm, ← hk]; exact hv)
  have hr : 2 ^ (k % 8 * 8) * 256 ≤ 2 ^ 64 := by
    rw [show (256 : Nat) = 2 ^ 8 from rfl, ← Nat.pow_add]; exact Nat.pow_le_pow_right (by decide) (by omega)
  have hl : limb v (k / 8) = v / 2 ^ (64 * (k / 8)) := Nat.mod_eq_of_lt (Nat.lt_of_lt_of_le hlow (by omega))
  refine ⟨?_, by rw [hl]; exact hlow⟩
  by_cases hi : i = k / 8
  · subst hi
    rw [upd_same, hl]
    unfold limb
    rw [hk, show v + x * (2 ^ (64 * (k / 8)) * 2 ^ (k % 8 * 8)) = v + x * 2 ^ (k % 8 * 8) * 2 ^ (64 * (k / 8)) by rw [Nat.mul_comm (2 ^ (64 * (k / 8))), ← Nat.mul_assoc], Nat.add_mul_div_right _ _ hp, Nat.mod_eq_of_lt]
    have h1 := Nat.mul_le_mul_right (2 ^ (k % 8 * 8)) (show x + 1 ≤ 256 by omega)
    rw [Nat.add_mul, Nat.one_mul, Nat.mul_comm 256] at h1
    omega
  · rw [upd_ne _ hi]
    rcases Nat.lt_or_ge i (k / 8) with h | h
    · unfold limb
      have e : 2 ^ (8 * k) = 2 ^ (64 * i) * (2 ^ 64 * 2 ^ (8 * k - 64 * i - 64)) := by rw [← Nat.pow_add, ← Nat.pow_add]; congr 1; omega
      rw [e, Nat.mul_left_comm x, Nat.add_mul_div_left _ _ (Nat.pow_pos (by decide)), Nat.mul_left_comm x, Nat.add_mul_mod_self_left]
    · have h64 : 2 ^ (8 * (k + 1)) ≤ 2 ^ (64 * i) := Nat.pow_le_pow_right (by decide) (by omega)
      have h4 : 2 ^ (8 * (k + 1)) = 256 * 2 ^ (8 * k) := by rw [show (256 : Nat) = 2 ^ 8 from rfl, ← Nat.pow_add]; congr 1; omega
      have h1 := Nat.mul_le_mul_right (2 ^ (8 * k)) (show x + 1 ≤ 256 by omega)
      rw [Nat.add_mul, Nat.one_mul] at h1
      unfold limb
      rw [Nat.div_eq_of_lt (by omega), Nat.div_eq_of_lt (by omega)]
theorem or_run {x l r : Nat} (hx : x < 2 ^ r) (hr : r < 64) (hf : x + l * 2 ^ r < 2 ^ 64) : bits BinOp.or IntKind.u64 (x : Int) (IntKind.u64.wrap ((l : Int) * 2 ^ r)) = ((x + l * 2 ^ r : Nat) : Int) := by
  rw [or_join hx hr]; congr 1; unfold shlLo; rw [Nat.mod_eq_of_lt (by omega)]

def FbPost (n : Nat) (f : Nat → Nat) (w : World) (e : Ending) (w' : World) : Prop :=
  e = .returned (.tuple #[U (if n = 32 then bnum f 32 else 0), .bool (decide (n = 32))]) ∧ Below w.heap.size w w'
theorem fbPost_yes {n : Nat} {f : Nat → Nat} {w w' : World} {e : Ending} (h : n = 32) (he : e = .returned (.tuple #[U (bnum f 32), .bool true])) (hw : Below w.heap.size w w') : FbPost n f w e w' := by
  unfold FbPost; rw [if_pos h, decide_eq_true h]; exact ⟨he, hw⟩
theorem fbPost_no {n : Nat} {f : Nat → Nat} {w w' : World} {e : Ending} (h : n ≠ 32) (he : e = .returned (.tuple #[U 0, .bool false])) (hw : Below w.heap.size w w') : FbPost n f w e w' := by
  unfold FbPost; rw [if_neg h, decide_eq_false h]; exact ⟨he, hw⟩
def FbRel (f : Nat → Nat) (w : World) (i : Value) (wr : World) : Prop :=
  ∃ k, k ≤ 32 ∧ i = .int .i64 (k : Nat) ∧ Arr .u64 wr w.heap.size 4 (fun _ => 0) ∧ Arr .u64 wr (w.heap.size + 1) 4 (limb (bnum f k)) ∧ Below w.heap.size w wr ∧ w.heap.size + 1 < wr.heap.size

set_option maxRecDepth 100000 in
set_option maxHeartbeats 1000000 in
theorem fb_walk (A : Option Addr) (n c : Nat) (f : Nat → Nat) (w : World) (hs : Sl w A n f) : Calls Try.prog 141 #[.slice A n c] w (FbPost n f w) := by
  by_cases hn : n = 32
  · have ht : ((n : Int) != 32) = false := by rw [hn]; rfl
    obtain ⟨g, o, rfl, hg, hc⟩ := hs.at_ (by omega)
    have Hs := Lib.hid hs.small
    have Hn := Lib.hid hn
    have Hc := Lib.hid hc
    clear hs hc
    subst hn
    go_enter Try.func141, Try.ntmps141
    go_wp2
    go_loopw [12] (FbRel f w) (fun i _ => 32 - (intOf i).toNat)
    case atStart =>
      refine ⟨0, by omega, rfl, (Arr.new4 (f := fun _ => 0) rfl).alloc _, (Arr.new4 (f := fun _ => 0) (by simp)).congr fun i _ => ?_, ((Below.refl _ _).alloc (Nat.le_refl _) _).alloc (by simp only [World.size_alloc]; omega) _, by simp⟩
      simp [bnum, limb]
    case round =>
      obtain ⟨k, hk, rfl, hz, ha, hbel, hsz⟩ := hrel
      by_cases hlt : k < 32
      · have lb := limb_byte (bnum_lt Hs.out k) (Hs.out (31 - k))
        obtain ⟨q, hq⟩ : ∃ q, q = k / 8 := ⟨_, rfl⟩
        obtain ⟨r, hr⟩ : ∃ r, r = k % 8 := ⟨_, rfl⟩
        rw [← hq, ← hr] at lb
        have e1 : (k : Int).tdiv 8 = (q : Int) := by rw [Int.tdiv_eq_ediv_of_nonneg (by omega)]; omega
        have e2 : (k : Int).tmod 8 = (r : Int) := by rw [Int.tmod_eq_emod_of_nonneg (by omega)]; omega
        have e3 : (k : Int) / 8 = (q : Int) := by omega
        have hq4 : q < 4 := by omega
        have hr8 : r < 8 := by omega
        have a1 := ha.cell q hq4
        have f1 := ha.free q hq4
        have b1 : wr.cell? ⟨g, o + (31 - k), none⟩ = some (.int .u8 (f (31 - k) : Nat)) := by rw [hbel.cell (p := ⟨g, o + (31 - k), none⟩) hg]; exact Hc.out _ (by omega)
        have hsum : limb (bnum f k) q + f (31 - k) * 2 ^ (r * 8) < 2 ^ 64 := by
          have := (lb 0).2
          have h2 := limb_lt (bnum f k + f (31 - k) * 2 ^ (8 * k)) q
          rw [(lb q).1, upd_same] at h2; exact h2
        have o1 := or_run (lb 0).2 (show r * 8 < 64 by omega) hsum
        obtain ⟨nw, hnw⟩ : ∃ x, x = limb (bnum f k) q + f (31 - k) * 2 ^ (r * 8) := ⟨_, rfl⟩
        rw [← hnw] at o1
        have i1 : IntKind.i64.wrap (31 - (k : Int)) = ((31 - k : Nat) : Int) := by rw [IntWalk.i64_in _ (by omega)]; omega
        have i2 : (31 : Int) - (k : Int) = ((31 - k : Nat) : Int) := by omega
        have i3 : ((31 - k : Nat) : Int) < 32 := by omega
        have w1 : IntKind.u64.wrap (f (31 - k) : Int) = (f (31 - k) : Int) := IntWalk.u64_in _ (by have := Hs.out (31 - k); omega)
        have Lb := Lib.hid lb
        have Hnw := Lib.hid hnw
        clear hq hr lb hnw hsum
        go_wp2
        go_region
        go_wp2
        go_roundw
        case rel =>
          refine ⟨k + 1, by omega, by go_num, hz.drew.set_far (by omega), (ha.drew.set hq4).congr fun i hi => ?_, (below_drewN hbel 1).setCell (by simp) _, by show _ < (wr.setCell _ _).heap.size; rw [World.size_setCell]; exact hsz⟩
          have e : bnum f (k + 1) = bnum f k + f (31 - k) * 2 ^ (8 * k) := rfl
          rw [e, (Lb.out i).1, Hnw.out]
        case measure => simp [intOf]; omega
      · obtain rfl : k = 32 := by omega
        obtain ⟨v, hv⟩ : ∃ v, v = bnum f 32 := ⟨_, rfl⟩
        rw [← hv] at ha
        have Hv := Lib.hid hv
        clear hv
        obtain ⟨s0, s1, s2, s3⟩ := ha.cells4
        obtain ⟨y0, y1, y2, y3⟩ := hz.frees4
        obtain ⟨z0, z1, z2, z3⟩ := hz.cells4
        go_wp2
        refine bodyPost_ret (v := .tuple #[.agg #[.int .u64 (limb v 0 : Nat), .int .u64 (limb v 1 : Nat), .int .u64 (limb v 2 : Nat), .int .u64 (limb v 3 : Nat)], .bool true]) (by simp [results, Try.results141, go_sem, z0, z1, z2, z3]) rfl (fbPost_yes rfl (by rw [← Hv.out]; rfl) (below_set4 hbel (by omega)))
  · have ht : ((n : Int) != 32) = true := by rw [bne_iff_ne]; omega
    have Hn := Lib.hid hn
    clear hn
    go_enter Try.func141, Try.ntmps141
    go_wp2
    refine bodyPost_ret (v := .tuple #[.agg #[.int .u64 0, .int .u64 0, .int .u64 0, .int .u64 0], .bool false]) (by simp [results, Try.results141, go_sem]) rfl (fbPost_no Hn.out (by rw [U_zero]) ?_)
    exact ((Below.refl _ _).alloc (Nat.le_refl _) _).alloc (by simp only [World.size_alloc]; omega) _
end Go.Proofs.Ytedkhpnlhkjjgaa

namespace Go.Proofs.Ytedkhpnlhkjjgaa
open Go.RowKit

def amtL (a : Nat) : List Int := (List.range 32).map fun i => ((byteAt a (31 - i) : Nat) : Int)
def amtStr (a : Nat) : ByteArray := strOfNums (amtL a)
theorem amtL_get (a i : Nat) (h : i < 32) : (amtL a).getD i 0 = ((byteAt a (31 - i) : Nat) : Int) := by
  unfold amtL
  simp [List.getD, h]
set_option maxRecDepth 100000 in
set_option maxHeartbeats 1000000 in
theorem amount9_walk (a : Nat) (w : World) : Calls Try.prog 67 #[U a] w fun e w' => e = .returned (.string (amtStr a)) ∧ Below w.heap.size w w' := by
  unfold U
  go_enter Try.func67, Try.ntmps67
  go_wp2_with (go_at_call 117; refine (bytes_walk a _).mono ?_; rintro e w1 ⟨g, rfl, hg1, hg2, hA, hb1⟩; have hcv := run_convert_bytes_arg (P := Try.prog) w1 56 5 Try.underlying56 Try.underlying5 g 0 32 32 (amtL a) (by simp [amtL]) (fun i hi => by rw [Nat.zero_add, amtL_get a i hi]; exact hA.cell i hi) 9 Try.underlying9)
  go_ret
  exact ⟨rfl, ((Below.refl _ _).alloc (Nat.le_refl _) _).trans (hb1.mono (by simp))⟩
/-- a byte of a text -/
def sb (s : ByteArray) (i : Nat) : Nat := if h : i < s.data.size then (s.data[i]).toNat else 0
theorem sb_lt (s : ByteArray) (i : Nat) : sb s i < 256 := by
  unfold sb
  split
  · exact UInt8.toNat_lt _
  · decide
theorem sl_conv (s : ByteArray) (w : World) (cap L : Nat) (t : TypeId) (a b : Nat) (hL : L = w.heap.size) : Sl (w.alloc (.cells (bytesRow s cap) t (a, b))).drew (some ⟨L, 0, none⟩) s.size (sb s) := by
  subst hL
  exact ⟨sb_lt s, fun _ => ⟨w.heap.size, 0, rfl, by show w.heap.size < (w.alloc _).heap.size; rw [World.size_alloc]; omega, fun i hi => by
    have hi' : i < s.data.size := hi
    rw [Nat.zero_add]
    have h := bytesRow_at s cap i hi'
    unfold sb
    rw [dif_pos hi']
    have hh : (w.alloc (.cells (bytesRow s cap) t (a, b))).drew.heap[w.heap.size]? = some (.cells (bytesRow s cap) t (a, b)) := by
      show (w.heap.push _)[w.heap.size]? = _
      simp
    unfold World.cell?
    rw [hh]
    exact h⟩⟩
def fbv (s : ByteArray) : Nat := if s.size = 32 then bnum (sb s) 32 else 0
theorem fb_c (A : Option Addr) (c x : Nat) (ok : Bool) (s : ByteArray) (w : World) (hs : Sl w A s.size (sb s)) (hx : fbv s = x) (hok : decide (s.size = 32) = ok) : Calls Try.prog 141 #[.slice A s.size c] w fun e w' => e = .returned (.tuple #[U x, .bool ok]) ∧ Below w.heap.size w w' := by
  rw [← hx, ← hok]; exact fb_walk A s.size c (sb s) w hs
set_option maxRecDepth 100000 in
set_option maxHeartbeats 1000000 in
theorem toAmount_walk (s : ByteArray) (x : Nat) (ok : Bool) (w : World) (hx : fbv s = x) (hok : decide (s.size = 32) = ok) : Calls Try.prog 114 #[.string s] w fun e w' => e = .returned (.tuple #[U x, .bool ok]) ∧ Below w.heap.size w w' := by
  have hcv := fun w s => run_bytes_of_string (P := Try.prog) w 9 56 5 s Try.underlying9 Try.underlying56 Try.underlying5
  have Hx := Lib.hid hx
  have Hok := Lib.hid hok
  clear hx hok
  have z0 := (Arr.new4 (κ := .u64) (w := w) (t := 29) (f := fun _ => 0) (b := w.heap.size) rfl)
  have Z0 := Lib.hid z0
  clear z0
  unfold U
  go_enter Try.func114, Try.ntmps114
  go_wp2_with (go_at_call 141; refine (fb_c (some ⟨w.heap.size + 1, 0, none⟩) _ x ok s _ (sl_conv s (w.alloc (.cells #[.int .u64 0, .int .u64 0, .int .u64 0, .int .u64 0] 29)) _ _ _ _ _ (by simp)) Hx.out Hok.out).mono ?_; rintro e w1 ⟨rfl, hb1⟩; have z1 := ((Z0.out.alloc _).drew).below hb1 (by show w.heap.size < ((w.alloc _).alloc _).heap.size; simp only [World.size_alloc]; omega); obtain ⟨f0, f1, f2, f3⟩ := z1.frees4; obtain ⟨c0, c1, c2, c3⟩ := z1.cells4; unfold U)
  refine bodyPost_ret (v := .tuple #[.agg #[.int .u64 (limb x 0 : Nat), .int .u64 (limb x 1 : Nat), .int .u64 (limb x 2 : Nat), .int .u64 (limb x 3 : Nat)], .bool ok]) (by simp [results, Try.results114, go_sem, c0, c1, c2, c3]) rfl ⟨rfl, below_set4 ((below_drewN (((Below.refl _ _).alloc (Nat.le_refl _) _).alloc (by simp) _) 1).trans (hb1.mono (by show w.heap.size ≤ ((w.alloc _).alloc _).heap.size; simp only [World.size_alloc]; omega))) (Nat.le_refl _)⟩
theorem amtStr_size (a : Nat) : (amtStr a).size = 32 := by unfold amtStr; rw [strOfNums_size]; simp [amtL]
theorem bnum_bytes9 (a : Nat) : ∀ k, k ≤ 32 → bnum (fun i => byteAt a (31 - i)) k = a % 2 ^ (8 * k)
  | 0, _ => by simp [bnum, Nat.mod_one]
  | k + 1, h => by
    have e : 2 ^ (8 * (k + 1)) = 2 ^ (8 * k) * 256 := by rw [show (256 : Nat) = 2 ^ 8 from rfl, ← Nat.pow_add]; congr 1
    simp only [bnum]
    rw [bnum_bytes9 a k (by omega), show 31 - (31 - k) = k by omega, e, Nat.mod_mul, byteAt, Nat.mul_comm (a / 2 ^ (8 * k) % 256)]
theorem bnum_congr {f g : Nat → Nat} (h : ∀ j, j ≤ 31 → f j = g j) : ∀ k, bnum f k = bnum g k
  | 0 => rfl
  | k + 1 => by simp only [bnum]; rw [bnum_congr h k, h (31 - k) (by omega)]
theorem sb_amt (a i : Nat) (h : i ≤ 31) : sb (amtStr a) i = byteAt a (31 - i) := by
  have hs : i < (amtStr a).data.size := by have h2 : (amtStr a).data.size = 32 := amtStr_size a; omega
  unfold sb
  rw [dif_pos hs]
  have e : (amtStr a).data[i] = UInt8.ofNat (byteAt a (31 - i)) := by
    show ((strOfNums (amtL a)).data)[i] = _
    simp [strOfNums, amtL]
  rw [e]
  have := byteAt_lt a (31 - i)
  rw [UInt8.toNat_ofNat']
  exact Nat.mod_eq_of_lt this
theorem amt_fbv (a : Nat) (ha : a < 2 ^ 256) : fbv (amtStr a) = a := by
  unfold fbv
  rw [if_pos (amtStr_size a), bnum_congr (fun j hj => sb_amt a j hj) 32, bnum_bytes9 a 32 (by omega), Nat.mod_eq_of_lt ha]
end Go.Proofs.Ytedkhpnlhkjjgaa

namespace Go.Proofs.Ytedkhpnlhkjjgaa
open Go.RowKit Go.Maps Go.Sort

set_option maxRecDepth 100000 in
set_option maxHeartbeats 1000000 in
theorem point_is (t : Int) (A : Option Addr) (n c : Nat) (f : Nat → Int) (k : Int) (K : ByteArray) (hK : keyStr t (icat f n fun _ => k) (n + 1) = K) (w : World) (hl : Il w A n f) (hz : A = none → n = 0 ∧ c = 0) (hn : n ≤ 20) (hk : k < 2 ^ 63) :
    Calls Try.prog 65 #[.int .i64 t, .slice A n c, .int .i64 k] w fun e w' => e = .returned (.string K) ∧ Below w.heap.size w w' := by
  have hb0 := (Below.refl w.heap.size w).alloc (Nat.le_refl _) (.cells #[.int .i64 k] 3)
  have HB0 := Lib.hid hb0
  have hc := iconcat2_c A (some ⟨w.heap.size, 0, none⟩) n 1 c 1 f (fun _ => k) (w.alloc (.cells #[.int .i64 k] 3)) (hl.below hb0) (il1 k w 3 hk) hz (fun h => by cases h) (by omega) (by omega) 30
  rw [World.size_alloc] at hc
  have HC := Lib.hid (hc.mono fun e w' hh => (⟨hh.1, hb0.trans (hh.2.mono (by simp))⟩ : (∃ v, e = .returned v ∧ w'.ownsRow (w.heap.size + 1) 3 1 v (n + 1) (iys (icat f n fun _ => k) (n + 1))) ∧ Below w.heap.size w w'))
  have HK := Lib.hid (fun (A' : Option Addr) (c' : Nat) (W : World) (h : Il W A' (n + 1) (icat f n fun _ => k)) => key_is t A' (n + 1) c' _ K hK W h (by omega))
  have HM := Lib.hid (fun (i : Nat) => show icat f n (fun _ => k) i < 2 ^ 63 from by unfold icat; split; exact hl.most _; exact hk)
  clear hl hK hz hn hk hb0 hc HB0
  go_enter Try.func65, Try.ntmps65
  go_wp2_with (first
    | (go_at_call 60; refine (HK.out _ _ _ HI.out).mono ?_; rintro e w2 ⟨rfl, hb2⟩; have HB2 := Lib.hid (HB1.out.trans (hb2.mono HB1.out.size)); clear hb2)
    | (go_at_call 116; refine HC.out.mono ?_; rintro e w1 ⟨⟨v, rfl, hv⟩, hb1⟩; obtain ⟨A1, c1, rfl, il, _⟩ := own_il hv HM.out; have HI := Lib.hid il; have HB1 := Lib.hid hb1; clear hv il hb1))
  go_ret
  exact ⟨rfl, HB2.out⟩
set_option maxRecDepth 100000 in
set_option maxHeartbeats 1000000 in
theorem reader_walk (P : Option Addr) (t : Int) (A : Option Addr) (n c : Nat) (w : World) : Calls Try.prog 62 #[.pointer P, .int .i64 t, .slice A n c] w fun e w' =>
    e = .returned (.func (.func 112) #[] #[.pointer (some ⟨w.heap.size, 0, none⟩), .pointer (some ⟨w.heap.size + 1, 0, none⟩), .pointer (some ⟨w.heap.size + 1 + 1, 0, none⟩)]) ∧ Below w.heap.size w w' ∧
    w'.cell? ⟨w.heap.size, 0, none⟩ = some (.pointer P) ∧ w'.cell? ⟨w.heap.size + 1, 0, none⟩ = some (.int .i64 t) ∧ w'.cell? ⟨w.heap.size + 1 + 1, 0, none⟩ = some (.slice A n c) ∧ w.heap.size + 1 + 1 < w'.heap.size := by
  go_enter Try.func62, Try.ntmps62
  go_wp2
  go_ret
  refine ⟨rfl, (((Below.refl _ _).alloc (Nat.le_refl _) _).alloc (by simp) _).alloc (by simp; omega) _, ?_, ?_, ?_, by simp⟩
  · rw [World.cell?_alloc_old _ _ _ (by simp; omega), World.cell?_alloc_old _ _ _ (by simp)]
    exact (World.cell?_alloc_at _ _ _ _ rfl).trans rfl
  · rw [World.cell?_alloc_old _ _ _ (by simp)]
    exact (World.cell?_alloc_at _ _ _ _ (by simp)).trans rfl
  · exact (World.cell?_alloc_at _ _ _ _ (by simp)).trans rfl
/-- a history's place in a world: the boxes b of its reader, the store P, the id's numbers -/
structure HisAt (w : World) (b : Nat) (P : Option Addr) (t : Int) (A : Option Addr) (n c : Nat) (f : Nat → Int) : Prop where
  c0 : w.cell? ⟨b, 0, none⟩ = some (.pointer P)
  c1 : w.cell? ⟨b + 1, 0, none⟩ = some (.int .i64 t)
  c2 : w.cell? ⟨b + 1 + 1, 0, none⟩ = some (.slice A n c)
  lt : b + 1 + 1 < w.heap.size
  l : Il w A n f
  z : A = none → n = 0 ∧ c = 0
  n : n ≤ 20
theorem HisAt.below {w w' : World} {b : Nat} {P : Option Addr} {t : Int} {A : Option Addr} {n c : Nat} {f : Nat → Int} (h : HisAt w b P t A n c f) (hb : Below w.heap.size w w') : HisAt w' b P t A n c f :=
  ⟨(hb.cell (p := ⟨b, 0, none⟩) (by have := h.lt; show b < _; omega)).trans h.c0, (hb.cell (p := ⟨b + 1, 0, none⟩) (by have := h.lt; show b + 1 < _; omega)).trans h.c1, (hb.cell (p := ⟨b + 1 + 1, 0, none⟩) h.lt).trans h.c2, Nat.lt_of_lt_of_le h.lt hb.size, h.l.below hb, h.z, h.n⟩
/-- what a checkpoint tells -/
def hisV (x : Int) (a : Nat) (ok : Bool) : Value := .tuple #[.int .i64 x, U a, .bool ok]
set_option maxRecDepth 100000 in
set_option maxHeartbeats 2000000 in
/-- a checkpoint that is not there -/
theorem read_none (b : Nat) (P : Option Addr) (t : Int) (A : Option Addr) (n c : Nat) (f : Nat → Int) (k : Int) (K : ByteArray) (hK : keyStr t (icat f n fun _ => k) (n + 1) = K) (ok : Bool) (w : World) (h : HisAt w b P t A n c f) (hk : k < 2 ^ 63)
    (hG : ∀ W, Below w.heap.size w W → Calls Try.prog 47 #[.pointer P, .string K] W fun e w' => e = .returned (.tuple #[.string ⟨#[]⟩, .bool ok]) ∧ Below W.heap.size W w') :
    Calls Try.prog 112 #[.int .i64 k, .pointer (some ⟨b, 0, none⟩), .pointer (some ⟨b + 1, 0, none⟩), .pointer (some ⟨b + 1 + 1, 0, none⟩)] w fun e w' => e = .returned (hisV 0 0 false) ∧ Below w.heap.size w w' := by
  obtain ⟨W0, hW0⟩ : ∃ W0, W0 = w.alloc (.cells #[.int .u64 0, .int .u64 0, .int .u64 0, .int .u64 0] 29) := ⟨_, rfl⟩
  have hb0 : Below w.heap.size w W0 := by rw [hW0]; exact (Below.refl _ _).alloc (Nat.le_refl _) _
  have r0 : W0.heap[w.heap.size]? = some (.cells #[.int .u64 0, .int .u64 0, .int .u64 0, .int .u64 0] 29 (0, 0)) := by rw [hW0]; exact heap_alloc_new _ _
  have hA := h.below hb0
  have f0 := fun (dq : Nat) (osq : Array Obj) => cell_regrown hA.c0 dq osq
  have f1 := fun (dq : Nat) (osq : Array Obj) => cell_regrown hA.c1 dq osq
  have f2 := fun (dq : Nat) (osq : Array Obj) => cell_regrown hA.c2 dq osq
  have HP := Lib.hid (fun (dq : Nat) (osq : Array Obj) => point_is t A n c f k K hK (grow (redrawn W0 dq) osq) (hA.l.below (below_regrown W0 dq osq)) h.z h.n hk)
  have HG := Lib.hid (fun (dq : Nat) (osq : Array Obj) => hG (grow (redrawn W0 dq) osq) (hb0.trans ((below_regrown W0 dq osq).mono hb0.size)))
  have HF := Lib.hid (fun (dq : Nat) (osq : Array Obj) => And.intro (hb0.trans ((below_regrown W0 dq osq).mono hb0.size)) (((below_regrown W0 dq osq).block w.heap.size (hp_lt r0)).trans r0))
  have HW := Lib.hid hW0
  clear h hG hA hb0 r0 hK hk hW0
  unfold hisV
  rw [U_zero]
  go_enter Try.func112, Try.ntmps112
  go_wp2
  rw [← HW.out]
  refine wp_region_quiet_below (by kernel_rfl) (by kernel_rfl) ?_
  repeat (quiet_step (first
    | (go_at_call 65; with_reducible exact Calls.regrown_of (HP.out _ _))
    | (go_at_call 47; with_reducible exact Calls.regrown_of (HG.out _ _))))
  refine wpQuiet_nil ?_
  intro _ hw'
  obtain ⟨⟨dq, osq⟩, hw''⟩ := hw'
  subst hw''
  have hf := HF.out dq osq
  obtain ⟨W, hW⟩ : ∃ W, W = grow (redrawn W0 dq) osq := ⟨_, rfl⟩
  rw [← hW] at hf ⊢
  clear hW f0 f1 f2 HF HP HG
  have HB := Lib.hid hf.1
  have d0 := (hp_cell (i := 0) hf.2).trans rfl
  have d1 := (hp_cell (i := 1) hf.2).trans rfl
  have d2 := (hp_cell (i := 2) hf.2).trans rfl
  have d3 := (hp_cell (i := 3) hf.2).trans rfl
  have g0 := hp_free (i := 0) hf.2
  have g1 := hp_free (i := 1) hf.2
  have g2 := hp_free (i := 2) hf.2
  have g3 := hp_free (i := 3) hf.2
  clear hf
  go_wp2
  refine bodyPost_ret (v := .tuple #[.int .i64 0, .agg #[.int .u64 0, .int .u64 0, .int .u64 0, .int .u64 0], .bool false]) (by simp [results, Try.results112, go_sem, d0, d1, d2, d3]) rfl ⟨rfl, below_set4 HB.out (Nat.le_refl _)⟩
end Go.Proofs.Ytedkhpnlhkjjgaa
