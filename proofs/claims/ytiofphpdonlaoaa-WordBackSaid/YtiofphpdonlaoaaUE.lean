/- u256.Parse, walked, at a text that Text tells. -/
import Derived.Test.YtiofphpdonlaoaaUD
import Derived.Test.YtiofphpdonlaoaaU1
import Derived.Test.YtiofphpdonlaoaaU4
namespace Go.Proofs.Ytiofphpdonlaoaa
open Go.RowKit

theorem mul10_c (m : Nat) (w : World) (hm : m * 10 < 2 ^ 256) : Calls Try.prog 19 #[U m, .agg #[.int .u64 10, .int .u64 0, .int .u64 0, .int .u64 0]] w
    fun e w' => e = .returned (.tuple #[U (m * 10), .bool true]) ∧ Below w.heap.size w w' := by
  have h := mul_walk m 10 w (by omega) (by decide)
  rw [U_small (show 10 < 2 ^ 64 by decide)] at h
  exact h.mono fun e w' ⟨he, hw⟩ => ⟨by rw [he, if_pos hm, decide_eq_true hm], hw⟩
theorem addd_c (m d : Nat) (w : World) (hd : d < 10) (hm : m + d < 2 ^ 256) : Calls Try.prog 15 #[U m, .agg #[.int .u64 (d : Nat), .int .u64 0, .int .u64 0, .int .u64 0]] w
    fun e w' => e = .returned (.tuple #[U (m + d), .bool true]) ∧ Below w.heap.size w w' := by
  have h := add_walk m d w (by omega) (by omega)
  rw [U_small (show d < 2 ^ 64 by omega)] at h
  exact h.mono fun e w' ⟨he, hw⟩ => ⟨by rw [he, if_pos hm, decide_eq_true hm], hw⟩

/-- a text of j digits of a -/
structure IsText (s : ByteArray) (a j : Nat) : Prop where
  size : s.size = j
  one : 1 ≤ j
  most : j ≤ 78
  byte : ∀ k (h : k < s.size), (s[k]).toNat = 48 + a / 10 ^ (j - 1 - k) % 10
  lt : a < 10 ^ j
  top : j = 1 ∨ 10 ^ (j - 1) ≤ a
theorem isText_digits {a j : Nat} (h1 : 1 ≤ j) (h2 : j ≤ 78) (h3 : a < 10 ^ j) (h4 : j = 1 ∨ 10 ^ (j - 1) ≤ a) : IsText (strOfNums (digits a j)) a j where
  size := by rw [strOfNums_size, digits_length]
  one := h1
  most := h2
  byte k h := by
    have hk : k < j := by rw [strOfNums_size, digits_length] at h; exact h
    have e : (strOfNums (digits a j))[k] = UInt8.ofNat (digAt a j k) := by
      show ((strOfNums (digits a j)).data)[k] = _
      simp [strOfNums, digits]
    rw [e]
    have : digAt a j k < 256 := digAt_lt a j k
    simp [digAt] at this ⊢
    omega
  lt := h3
  top := h4
theorem prefix_step {a j k : Nat} (hk : k < j) : a / 10 ^ (j - (k + 1)) = a / 10 ^ (j - k) * 10 + a / 10 ^ (j - 1 - k) % 10 := by
  rw [show j - (k + 1) = j - 1 - k by omega, show j - k = j - 1 - k + 1 by omega, Nat.pow_succ, ← Nat.div_div_eq_div_mul]
  omega

theorem Arr.lt {κ : IntKind} {w : World} {b n : Nat} {f : Nat → Nat} (h : Arr κ w b n f) (hn : 0 < n) : b < w.heap.size := World.block_lt_of_cell? w _ (h.cell 0 hn)
/-- what lies in memory in Parse's round: the result's box, the number's, and one more -/
structure PMem (w wr : World) (m : Nat) : Prop where
  z : Arr .u64 wr w.heap.size 4 (fun _ => 0)
  a : Arr .u64 wr (w.heap.size + 1) 4 (limb m)
  b : Below w.heap.size w wr
  s : w.heap.size + 1 < wr.heap.size
theorem PMem.below {w wr w' : World} {m : Nat} (h : PMem w wr m) (hb : Below wr.heap.size wr w') : PMem w w' m := by
  have := h.s; have := hb.size
  exact ⟨h.z.below hb (by omega), h.a.below hb (by omega), h.b.trans (hb.mono (by omega)), by omega⟩
theorem PMem.drew {w wr : World} {m : Nat} (h : PMem w wr m) : PMem w wr.drew m := ⟨h.z.drew, h.a.drew, below_drewN h.b 1, h.s⟩
theorem PMem.alloc {w wr : World} {m : Nat} (h : PMem w wr m) (o : Obj) : PMem w (wr.alloc o) m := by
  have := h.s
  exact ⟨h.z.alloc o, h.a.alloc o, h.b.alloc (by omega) o, by rw [World.size_alloc]; omega⟩

theorem PMem.put {w wr : World} {m L : Nat} {x0 x1 x2 x3 : Value} (h : PMem w wr m) (hL : w.heap.size + 1 < L) :
    PMem w ((((wr.setCell ⟨L, 0, none⟩ x0).setCell ⟨L, 1, none⟩ x1).setCell ⟨L, 2, none⟩ x2).setCell ⟨L, 3, none⟩ x3) m :=
  ⟨h.z.put4_far (by omega), h.a.put4_far (by omega), below_set4 h.b (by omega), by simp only [World.size_setCell]; exact h.s⟩

def ParsePost (a : Nat) (w : World) (e : Ending) (w' : World) : Prop := e = .returned (.tuple #[U a, .bool true]) ∧ Below w.heap.size w w'
def ParseRel (a j : Nat) (w : World) (i : Value) (wr : World) : Prop :=
  ∃ k, k ≤ j ∧ i = .int .i64 (k : Nat) ∧ Arr .u64 wr w.heap.size 4 (fun _ => 0) ∧ Arr .u64 wr (w.heap.size + 1) 4 (limb (a / 10 ^ (j - k))) ∧ Below w.heap.size w wr ∧ w.heap.size + 1 < wr.heap.size

set_option maxRecDepth 100000 in
set_option maxHeartbeats 12000000 in
theorem parse_walk (s : ByteArray) (a j : Nat) (w : World) (hal : a < 2 ^ 256) (ht : IsText s a j) : Calls Try.prog 29 #[.string s] w (ParsePost a w) := by
  have Hal := Lib.hid hal
  have HT := Lib.hid ht
  have hsz := ht.size
  have h1 := ht.one
  have h78 := ht.most
  have hne : s.toList.isEmpty = false := by
    rw [ByteArray.toList_eq, List.isEmpty_eq_false_iff]
    intro h
    have : s.data.toList.length = 0 := by rw [h]; rfl
    have e : s.size = s.data.toList.length := rfl
    omega
  have hp0 : 0 < s.size := by omega
  have hmax : s.size ≤ 78 := by omega
  have Hsz := Lib.hid hsz
  clear hal ht hsz
  have hd : (¬ (1 : Int) < (s.size : Int)) ∨ ((1 : Int) < (s.size : Int) ∧ ((s[0].toNat : Int) == 48) = false) := by
    by_cases hj1 : j = 1
    · left; have := Hsz.out; omega
    · right
      refine ⟨by have := Hsz.out; omega, ?_⟩
      rw [beq_eq_false_iff_ne]
      have hb := HT.out.byte 0 hp0
      have htop := HT.out.top
      have hdv : 0 < a / 10 ^ (j - 1) := Nat.div_pos (by rcases htop with h | h; exact absurd h hj1; exact h) (Nat.pow_pos (by decide))
      have hdl : a / 10 ^ (j - 1) < 10 := (Nat.div_lt_iff_lt_mul (Nat.pow_pos (by decide))).2 (by
        have := HT.out.lt
        rw [show j = 1 + (j - 1) by omega, Nat.pow_add] at this; simpa using this)
      rw [Nat.sub_zero, Nat.mod_eq_of_lt hdl] at hb
      omega
  have Hd := Lib.hid hd
  clear hd
  go_enter Try.func29, Try.ntmps29
  go_upto_region 1 with (fail)
  go_cut [21] (fun q wx => q = .bool false ∧ wx = w.alloc (.cells #[.int .u64 0, .int .u64 0, .int .u64 0, .int .u64 0] 24))
  case first =>
    rcases Hd.out with hgt | ⟨hgt, hb0⟩
    · go_wp2
      go_meet
      case rel => exact ⟨rfl, rfl⟩
    · go_wp2
      go_meet
      case rel => exact ⟨rfl, rfl⟩
  case rest =>
    obtain ⟨rfl, rfl⟩ := hcut
    go_wp2
    go_loopw [25] (ParseRel a j w) (fun i _ => j - (intOf i).toNat)
    case atStart =>
      refine ⟨0, by omega, rfl, (Arr.new4 (f := fun _ => 0) rfl).alloc _, ?_, ((Below.refl _ _).alloc (Nat.le_refl _) _).alloc (by simp only [World.size_alloc]; omega) _, by simp⟩
      rw [Nat.sub_zero, Nat.div_eq_of_lt HT.out.lt]
      refine (Arr.new4 (f := fun _ => 0) (by simp)).congr fun i _ => by simp [limb]
    case round =>
      obtain ⟨k, hk, rfl, hz, ha, hbel, hws⟩ := hrel
      by_cases hlt : k < j
      · have hks : k < s.size := by have := Hsz.out; omega
        have hksI : (k : Int) < (s.size : Int) := by omega
        obtain ⟨dg, hdg⟩ : ∃ d, d = a / 10 ^ (j - 1 - k) % 10 := ⟨_, rfl⟩
        have hdl : dg < 10 := by omega
        obtain ⟨b, hb⟩ : ∃ b, b = (s[k]).toNat := ⟨_, rfl⟩
        have hbd : b = 48 + dg := by rw [hb, HT.out.byte k hks, hdg]
        have hbk : (s[k]).toNat = b := hb.symm
        have b1 : ¬ (b : Int) < 48 := by omega
        have b2 : ¬ (57 : Int) < (b : Int) := by omega
        have b3 : IntKind.u8.wrap ((b : Int) - 48) = (dg : Int) := by rw [IntWalk.u8_in _ (by omega)]; omega
        have b4 : IntKind.u64.wrap (dg : Int) = (dg : Int) := IntWalk.u64_in _ (by omega)
        obtain ⟨m, hm⟩ : ∃ m, m = a / 10 ^ (j - k) := ⟨_, rfl⟩
        have hst : a / 10 ^ (j - (k + 1)) = m * 10 + dg := by rw [prefix_step hlt, ← hm, ← hdg]
        have hle : m * 10 + dg < 2 ^ 256 := by rw [← hst]; exact Nat.lt_of_le_of_lt (Nat.div_le_self _ _) Hal.out
        rw [← hm] at ha
        have Hst := Lib.hid hst
        have Hle := Lib.hid hle
        have Hlt := Lib.hid hlt
        clear hb hbd hdg hm hst hle hlt
        obtain ⟨a0, a1, a2, a3⟩ := ha.cells4
        go_upto_region 9 with (fail)
        have pm : PMem w wr m := ⟨hz, ha, hbel, hws⟩
        clear hz ha hbel hws
        go_cut [6, 7] (fun p q wx => ∃ L, p = .pointer (some ⟨L, 0, none⟩) ∧ q = .bool true ∧ Arr .u64 wx L 4 (limb (m * 10)) ∧ PMem w wx m ∧ w.heap.size + 1 < L ∧ L < wx.heap.size)
        case first =>
          obtain ⟨m10, h10⟩ : ∃ x, x = m * 10 := ⟨_, rfl⟩
          have H10 := Lib.hid h10
          have v0 : w.heap.size + 1 < wr.heap.size := pm.s
          clear h10
          go_region_with (first
            | (go_at_call 39; refine (of10_c _).mono ?_; rintro e w2 ⟨rfl, hb2⟩; have pm2 : PMem w w2 m := (by first | exact pm.drew.below hb2 | exact (pm.alloc _).drew.below hb2); obtain ⟨a0', a1', a2', a3'⟩ := pm2.a.cells4; (first | (have lz2 : Arr .u64 w2 wr.heap.size 4 (fun _ => 0) := ((Arr.new4 (f := fun _ => 0) rfl).drew).below hb2 (by show _ < (wr.alloc _).heap.size; rw [World.size_alloc]; omega)) | skip); have z2 := pm2.s; have y2 : wr.heap.size ≤ w2.heap.size := (by have h := hb2.size; simp at h; omega); have v2 : w.heap.size + 1 < wr.heap.size := pm.s)
            | (go_at_call 19; refine (mul10_c m _ (by have := Hle.out; omega)).mono ?_; rintro e w3 ⟨rfl, hb3⟩; rw [← H10.out]; have pm3 : PMem w w3 m := (by first | exact pm2.below hb3 | exact (pm2.alloc _).below hb3); (first | (have lz3 : Arr .u64 w3 wr.heap.size 4 (fun _ => 0) := lz2.below hb3 (lz2.lt (by omega))) | (have lz3 : Arr .u64 w3 w2.heap.size 4 (fun _ => 0) := (Arr.new4 (f := fun _ => 0) rfl).below hb3 (by rw [World.size_alloc]; omega)) | skip); (first | (obtain ⟨u0, u1, u2, u3⟩ := lz3.frees4; obtain ⟨t0, t1, t2, t3⟩ := lz3.cells4) | skip); unfold U))
          all_goals
            go_wp2
            go_meet
            case rel =>
              first
                | exact ⟨w3.heap.size, rfl, rfl, by rw [← H10.out]; exact Arr.new4 (f := limb m10) rfl, pm3.alloc _, pm3.s, by rw [World.size_alloc]; omega⟩
                | exact ⟨wr.heap.size, rfl, rfl, by rw [← H10.out]; exact lz3.put4, pm3.put v2, v2, by simp only [World.size_setCell]; exact lz3.lt (by omega)⟩
                | exact ⟨w2.heap.size, rfl, rfl, by rw [← H10.out]; exact lz3.put4, pm3.put z2, z2, by simp only [World.size_setCell]; exact lz3.lt (by omega)⟩
        case rest =>
          obtain ⟨L, rfl, rfl, hl, pmc, hL1, hL2⟩ := hcut
          clear a0 a1 a2 a3 pm
          obtain ⟨c0, c1, c2, c3⟩ := hl.cells4
          go_upto_region 10 with (fail)
          go_cut [8, 9] (fun p q wx => ∃ L, p = .pointer (some ⟨L, 0, none⟩) ∧ q = .bool true ∧ Arr .u64 wx L 4 (limb (m * 10 + dg)) ∧ PMem w wx m ∧ w.heap.size + 1 < L ∧ L < wx.heap.size)
          case first =>
            obtain ⟨m10, h10⟩ : ∃ x, x = m * 10 := ⟨_, rfl⟩
            obtain ⟨mn, hmn⟩ : ∃ x, x = m * 10 + dg := ⟨_, rfl⟩
            have hle' : m10 + dg < 2 ^ 256 := by rw [h10]; exact Hle.out
            rw [← h10] at c0 c1 c2 c3 hl
            have Hmn : Hid (mn = m10 + dg) := Lib.hid (by rw [hmn, h10])
            have Hmn' := Lib.hid hmn
            have Hle' := Lib.hid hle'
            have v0 : w.heap.size + 1 < wc.heap.size := pmc.s
            clear h10 hmn hle'
            go_region_with (first
              | (go_at_call 39; refine (of_walk dg _).mono ?_; rintro e w2 ⟨rfl, hb2⟩; have pm2 : PMem w w2 m := (by first | exact pmc.drew.below hb2 | exact (pmc.alloc _).drew.below hb2); have hl2 : Arr .u64 w2 L 4 (limb m10) := (by first | exact hl.drew.below hb2 hL2 | exact (hl.alloc _).drew.below hb2 (by show _ < (wc.alloc _).heap.size; rw [World.size_alloc]; omega)); obtain ⟨a0', a1', a2', a3'⟩ := hl2.cells4; (first | (have lz2 : Arr .u64 w2 wc.heap.size 4 (fun _ => 0) := ((Arr.new4 (f := fun _ => 0) rfl).drew).below hb2 (by show _ < (wc.alloc _).heap.size; rw [World.size_alloc]; omega)) | skip); have z2 := pm2.s; have zL2 : L < w2.heap.size := hl2.lt (by omega); have v2 : w.heap.size + 1 < wc.heap.size := pmc.s)
              | (go_at_call 15; refine (addd_c m10 dg _ hdl Hle'.out).mono ?_; rintro e w3 ⟨rfl, hb3⟩; rw [← Hmn.out]; have pm3 : PMem w w3 m := (by first | exact pm2.below hb3 | exact (pm2.alloc _).below hb3); (first | (have lz3 : Arr .u64 w3 wc.heap.size 4 (fun _ => 0) := lz2.below hb3 (lz2.lt (by omega))) | (have lz3 : Arr .u64 w3 w2.heap.size 4 (fun _ => 0) := (Arr.new4 (f := fun _ => 0) rfl).below hb3 (by rw [World.size_alloc]; omega)) | skip); (first | (obtain ⟨u0, u1, u2, u3⟩ := lz3.frees4; obtain ⟨t0, t1, t2, t3⟩ := lz3.cells4) | skip); unfold U))
            all_goals
              go_wp2
              go_meet
              case rel =>
                first
                  | exact ⟨w3.heap.size, rfl, rfl, by rw [← Hmn'.out]; exact Arr.new4 (f := limb mn) rfl, pm3.alloc _, pm3.s, by rw [World.size_alloc]; omega⟩
                  | exact ⟨wc.heap.size, rfl, rfl, by rw [← Hmn'.out]; exact lz3.put4, pm3.put v2, v2, by simp only [World.size_setCell]; exact lz3.lt (by omega)⟩
                  | exact ⟨w2.heap.size, rfl, rfl, by rw [← Hmn'.out]; exact lz3.put4, pm3.put z2, z2, by simp only [World.size_setCell]; exact lz3.lt (by omega)⟩
          case rest =>
            clear c0 c1 c2 c3 hl pmc hL1 hL2
            obtain ⟨L2, rfl, rfl, hl, pmc, hL1, hL2⟩ := hcut
            obtain ⟨mn, hmn⟩ : ∃ x, x = m * 10 + dg := ⟨_, rfl⟩
            rw [← hmn] at hl
            have Hmn := Lib.hid hmn
            clear hmn
            obtain ⟨c0, c1, c2, c3⟩ := hl.cells4
            obtain ⟨y0, y1, y2, y3⟩ := pmc.a.frees4
            obtain ⟨x0, x1, x2, x3⟩ := pmc.a.cells4
            go_wp2
            go_roundw
            case rel =>
              refine ⟨k + 1, Hlt.out, by go_num, pmc.z.put4_far (by omega), ?_, below_set4 pmc.b (by omega), by simp only [World.size_setCell]; exact pmc.s⟩
              rw [Hst.out, ← Hmn.out]; exact pmc.a.put4
            case measure => have := Hlt.out; simp [intOf]; omega
      · obtain rfl : k = j := by omega
        have hksI : ¬ (k : Int) < (s.size : Int) := by have := Hsz.out; omega
        rw [Nat.sub_self, Nat.pow_zero, Nat.div_one] at ha
        obtain ⟨s0, s1, s2, s3⟩ := ha.cells4
        obtain ⟨y0, y1, y2, y3⟩ := hz.frees4
        obtain ⟨z0, z1, z2, z3⟩ := hz.cells4
        clear hlt
        go_wp2
        refine bodyPost_ret (v := .tuple #[.agg #[.int .u64 (limb a 0 : Nat), .int .u64 (limb a 1 : Nat), .int .u64 (limb a 2 : Nat), .int .u64 (limb a 3 : Nat)], .bool true]) (by simp [results, Try.results29, go_sem, z0, z1, z2, z3]) rfl ⟨rfl, below_set4 hbel (by omega)⟩
end Go.Proofs.Ytiofphpdonlaoaa
