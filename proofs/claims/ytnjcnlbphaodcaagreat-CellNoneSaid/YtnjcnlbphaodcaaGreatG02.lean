/- keys.number, walked. -/
import Derived.Test.YtnjcnlbphaodcaaGreatG01
import Derived.Deep.AppendLies
namespace Go.Proofs.YtnjcnlbphaodcaaGreat
open Go.RowKit

/-- the number of the first k bytes -/
def numv (v : ByteArray) : Nat → Nat
  | 0 => 0
  | k + 1 => numv v k * 256 + (v.data.toList.getD k 0).toNat
theorem numv_lt (v : ByteArray) : ∀ k, numv v k < 2 ^ (8 * k)
  | 0 => by simp [numv]
  | k + 1 => by
    have h := numv_lt v k
    have h2 := (v.data.toList.getD k 0).toNat_lt
    rw [numv, show 8 * (k + 1) = 8 * k + 8 by omega, Nat.pow_add]
    omega
theorem or_byte {n y : Nat} (hn : n < 2 ^ 56) (hy : y < 256) : bits BinOp.or IntKind.u64 (IntKind.u64.wrap ((n : Int) * 256)) (IntKind.u64.wrap (y : Int)) = ((n * 256 + y : Nat) : Int) := by
  have h1 : IntKind.u64.wrap ((n : Int) * 256) = ((n * 256 : Nat) : Int) := by rw [IntKind.wrap_u64]; omega
  have h2 : IntKind.u64.wrap (y : Int) = ((y : Nat) : Int) := by rw [IntKind.wrap_u64]; omega
  rw [h1, h2, u64_or_nat _ _ (by omega) (by omega), nat_join 8 _ _ (by omega) (by omega)]
theorem num_top (n : Nat) : ((n : Int) / 9223372036854775808 == 0) = decide (n < 2 ^ 63) := by
  by_cases h : n < 2 ^ 63
  · rw [decide_eq_true h, beq_iff_eq]; omega
  · rw [decide_eq_false h, beq_eq_false_iff_ne]; omega
def NumRel (v : ByteArray) (w : World) (x i : Value) (wr : World) : Prop := ∃ k : Nat, k ≤ 8 ∧ i = .int .i64 (k : Nat) ∧ x = .int .u64 (numv v k : Nat) ∧ wr = w
set_option maxRecDepth 100000 in
set_option maxHeartbeats 1000000 in
theorem number_walk (v : ByteArray) (w : World) (hv : 8 ≤ v.size) (hv2 : (v.size : Int) ≤ 9223372036854775807) : Calls Tryz.prog 74 #[.string v] w fun e w' => e = .returned (.tuple #[.int .i64 (IntKind.i64.wrap (numv v 8 : Nat)), .bool (decide (numv v 8 < 2 ^ 63))]) ∧ w' = w := by
  go_enter Tryz.func74, Tryz.ntmps74
  go_wp2
  go_loopw [4, 6] (NumRel v w) (fun _ i _ => 8 - (intOf i).toNat)
  case atStart => exact ⟨0, by omega, rfl, rfl, rfl⟩
  case round =>
    obtain ⟨k, hk, rfl, rfl, rfl⟩ := hrel
    obtain ⟨n, hn⟩ : ∃ n, n = numv v k := ⟨_, rfl⟩
    rw [← hn]
    have Hn := Lib.hid hn
    clear hn
    by_cases hlt : k < 8
    · have kv : (k : Int) < v.size := by omega
      go_wp2
      go_roundw
      case rel =>
        have h1 : n < 2 ^ 56 := by
          rw [Hn.out]
          exact Nat.lt_of_lt_of_le (numv_lt v k) (Nat.pow_le_pow_right (by decide) (by omega))
        refine ⟨k + 1, by omega, by go_num, ?_, rfl⟩
        rw [or_byte h1 (UInt8.toNat_lt _), numv, ← Hn.out]
        congr 4
        have hk8 : k < v.data.toList.length := by have : v.data.toList.length = v.size := rfl; omega
        simp only [List.getD, List.getElem?_eq_getElem hk8, Option.getD_some]
        rfl
      case measure => simp [intOf]; omega
    · obtain rfl : k = 8 := by omega
      go_wp2
      refine bodyPost_ret (v := .tuple #[.int .i64 (wrap64 (n : Int)), .bool ((n : Int) / 9223372036854775808 == 0)]) (by simp [results, Tryz.results74, go_sem]) rfl ⟨?_, rfl⟩
      rw [← Hn.out, num_top, show wrap64 (n : Int) = IntKind.i64.wrap (n : Int) by rw [IntKind.wrap_i64]; unfold wrap64; omega]
end Go.Proofs.YtnjcnlbphaodcaaGreat

namespace Go.Proofs.YtnjcnlbphaodcaaGreat
open Go.RowKit

theorem one_cell' (w : World) (x : Int) (t : TypeId) : ∀ j u, ([.int .i64 x] : List Value)[j]? = some u → (w.alloc (.cells #[.int .i64 x] t)).cell? ((⟨w.heap.size, 0, none⟩ : Addr).add j) = some u := by
  intro j u h
  match j, h with
  | 0, h => simp at h; subst h; simp [Addr.add]
theorem one_one' (x : Int) : ∀ u ∈ ([.int .i64 x] : List Value), u.oneCell' = true := fun u hu => by simp at hu; subst hu; rfl
theorem drop8 (s : ByteArray) : (s.extract 8 s.size).data.toList = s.data.toList.drop 8 := by
  have hl : s.data.toList.length = s.size := rfl
  rw [ByteArray.data_extract, Array.toList_extract, List.extract_eq_take_drop, List.take_of_length_le (by rw [List.length_drop]; omega)]
theorem infoI64 : (Tryz.prog.info? 3).map (fun i => (i.zero, i.size, i.bytes)) = some (some (.int .i64 0), 1, 8) := by kernel_rfl
/-- the k-th number of a text -/
def numl (l : List UInt8) : Nat → Nat
  | 0 => 0
  | k + 1 => numl l k * 256 + (l.getD k 0).toNat
theorem numv_numl (v : ByteArray) : ∀ k, numv v k = numl v.data.toList k
  | 0 => rfl
  | k + 1 => by rw [numv, numl, numv_numl v k]
def chunk (v : ByteArray) (i : Nat) : Nat := numl (v.data.toList.drop (8 * i)) 8
def i64n (f : Nat → Nat) (k : Nat) : List Value := (List.range k).map fun i => Value.int .i64 (f i : Nat)
theorem i64n_succ (f : Nat → Nat) (k : Nat) : i64n f (k + 1) = i64n f k ++ [.int .i64 (f k : Nat)] := by simp [i64n, List.range_succ]
def NumsRel (v : ByteArray) (m g : Nat) (w : World) (x y : Value) (wr : World) : Prop :=
  ∃ (k : Nat) (s : ByteArray), k ≤ m ∧ x = .string s ∧ s.data.toList = v.data.toList.drop (8 * k) ∧ s.size = 8 * (m - k) ∧ y = .slice (some ⟨g, 0, none⟩) k m ∧ (∀ i, i < k → chunk v i < 2 ^ 63) ∧
    wr.ownsRow w.heap.size 3 1 (.slice (some ⟨g, 0, none⟩) k m) k (i64n (chunk v) k) ∧ Below w.heap.size w wr ∧ w.heap.size < wr.heap.size
def NumsPost (v : ByteArray) (m : Nat) (w : World) (e : Ending) (w' : World) : Prop :=
  (((∀ i, i < m → chunk v i < 2 ^ 63) ∧ e = .returned (.tuple #[.slice (some ⟨w.heap.size, 0, none⟩) m m, .bool true]) ∧ w'.ownsRow w.heap.size 3 1 (.slice (some ⟨w.heap.size, 0, none⟩) m m) m (i64n (chunk v) m)) ∨
    ((∃ i, i < m ∧ ¬ chunk v i < 2 ^ 63) ∧ e = .returned (.tuple #[.slice none 0 0, .bool false]))) ∧ Below w.heap.size w w'
def lenOf : Value → Nat
  | .string s => s.size
  | _ => 0
set_option maxRecDepth 100000 in
theorem number_ok_c (s : ByteArray) (n : Nat) (w : World) (h : n = numv s 8 ∧ n < 2 ^ 63) (hv : 8 ≤ s.size) (hv2 : (s.size : Int) ≤ 9223372036854775807) : Calls Tryz.prog 74 #[.string s] w fun e w' => e = .returned (.tuple #[.int .i64 (n : Nat), .bool true]) ∧ w' = w :=
  (number_walk s w hv hv2).mono fun e w' ⟨he, hw⟩ => ⟨by rw [he, ← h.1, decide_eq_true h.2, IntWalk.i64_in _ (by have := h.2; omega)], hw⟩
theorem number_no_c (s : ByteArray) (w : World) (h : ¬ numv s 8 < 2 ^ 63) (hv : 8 ≤ s.size) (hv2 : (s.size : Int) ≤ 9223372036854775807) : Calls Tryz.prog 74 #[.string s] w fun e w' => (∃ x, e = .returned (.tuple #[.int .i64 x, .bool false])) ∧ w' = w :=
  (number_walk s w hv hv2).mono fun e w' ⟨he, hw⟩ => ⟨⟨IntKind.i64.wrap (numv s 8 : Nat), by rw [he, decide_eq_false h]⟩, hw⟩
set_option maxRecDepth 100000 in
set_option maxHeartbeats 1000000 in
theorem nums_walk (v : ByteArray) (m : Nat) (w : World) (hv : v.size = 8 * m) (hm : m ≤ 100) : Calls Tryz.prog 51 #[.string v] w (NumsPost v m w) := by
  obtain ⟨i0, hi, hz0, hz1, hz2⟩ := info_parts infoI64
  have hmI : (m : Int) ≤ 100 := by omega
  have e1 : (v.size : Int) = 8 * (m : Int) := by omega
  have e2 : Int.tmod (8 * (m : Int)) 8 = 0 := Int.mul_tmod_right _ _
  have e3 : Int.tdiv (8 * (m : Int)) 8 = m := Int.mul_tdiv_cancel_left _ (by decide)
  go_enter Tryz.func51, Tryz.ntmps51
  go_wp2_with (at_make; refine wpList_make_own _ rfl _ _ _ rfl (w.heap.size) 3 i0 (.int .i64 0) 1 Tryz.underlying25 hi hz0 hz1 .i64 .i64 _ m rfl rfl (by omega) (by rw [hz2]; omega) (by unfold maxLen; omega) (Nat.le_refl _) ?_; intro w1 own1 hg1)
  go_loopw [0, 4] (NumsRel v m w.heap.size w) (fun x _ _ => lenOf x)
  case atStart =>
    have hlt1 := (own1.lt w.heap.size rfl).2
    exact ⟨0, v, Nat.zero_le _, rfl, rfl, by omega, rfl, fun i h => absurd h (by omega), own1, (Below.refl _ _).grown hg1 (Nat.le_refl _) (fun j hj => by cases hj), hlt1⟩
  case round =>
    obtain ⟨k, s, hk, rfl, hs, hsz, rfl, hpos, hown, hbel, hlt0⟩ := hrel
    by_cases hlt : k < m
    · have hne : s.toList.isEmpty = false := by
        rw [ByteArray.toList_eq, hs, List.isEmpty_eq_false_iff]
        intro e
        have := congrArg List.length e
        have hl : v.data.toList.length = v.size := rfl
        rw [List.length_drop] at this
        simp at this
        omega
      obtain ⟨n, hn⟩ : ∃ n, n = numv s 8 := ⟨_, rfl⟩
      have Hn := Lib.hid hn
      have Hs := Lib.hid hs
      have Hpos := Lib.hid hpos
      clear hn hs hpos
      have hsI : (s.size : Int) ≤ 800 := by omega
      have hs8 : (8 : Int) ≤ s.size := by omega
      have cases2 : (∃ h : Hid (n < 2 ^ 63), True) ∨ (∃ h : Hid (¬ n < 2 ^ 63), True) := by
        by_cases h : n < 2 ^ 63
        · exact .inl ⟨Lib.hid h, trivial⟩
        · exact .inr ⟨Lib.hid h, trivial⟩
      rcases cases2 with ⟨hb, _⟩ | ⟨hb, _⟩
      · go_wp2_with (first
          | (go_at_call 74; refine (number_ok_c s n _ ⟨Hn.out, hb.out⟩ (by omega) (by omega)).mono ?_; rintro e w2 ⟨rfl, rfl⟩)
          | (at_builtin; refine wpList_append_fits _ rfl (.tmp 26) (.tmp 28) _ rfl w.heap.size 3 i0 1 Tryz.underlying25 hi hz1 w.heap.size k m (i64n (chunk v) k) rfl (hown.alloc _) ⟨w2.heap.size, 0, none⟩ 1 1 [.int .i64 (n : Nat)] rfl rfl (one_cell' _ _ _) (one_one' _) (by omega) ?_; intro w3 hown3 hg3))
        go_roundw
        case rel =>
          have hn2 : n = chunk v k := by rw [Hn.out, numv_numl, Hs.out]; rfl
          refine ⟨k + 1, s.extract 8 (8 * (m - k)), by omega, rfl, ?_, ?_, rfl, ?_, ?_, ?_, ?_⟩
          · rw [← hsz, drop8, Hs.out, List.drop_drop]; rfl
          · rw [ByteArray.size_extract]; omega
          · intro i hi'
            rcases Nat.lt_or_ge i k with h | h
            · exact Hpos.out i h
            · rw [show i = k by omega, ← hn2]; exact hb.out
          · rw [i64n_succ, ← hn2]; exact hown3
          · exact (hbel.alloc (Nat.le_of_lt hlt0) _).grown hg3 (by simp; omega) (fun j hj => by cases hj; exact Nat.le_refl _)
          · have := hg3.size; simp at this; omega
        case measure => simp [lenOf]; omega
      · go_wp2_with (go_at_call 74; refine (number_no_c s _ (by rw [← Hn.out]; exact hb.out) (by omega) (by omega)).mono ?_; rintro e w2 ⟨⟨x, rfl⟩, rfl⟩)
        refine bodyPost_ret (v := .tuple #[.slice none 0 0, .bool false]) (by simp [results, Tryz.results51, go_sem]) rfl ⟨.inr ⟨⟨k, hlt, ?_⟩, rfl⟩, hbel⟩
        have hn2 : n = chunk v k := by rw [Hn.out, numv_numl, Hs.out]; rfl
        rw [← hn2]; exact hb.out
    · obtain rfl : k = m := by omega
      have hne : s.toList.isEmpty = true := by
        rw [ByteArray.toList_eq, List.isEmpty_iff]
        exact List.eq_nil_of_length_eq_zero (by show s.size = 0; omega)
      have Hs := Lib.hid hs
      have Hpos := Lib.hid hpos
      clear hs hpos
      go_wp2
      refine bodyPost_ret (v := .tuple #[.slice (some ⟨w.heap.size, 0, none⟩) k k, .bool true]) (by simp [results, Tryz.results51, go_sem]) rfl ⟨.inl ⟨Hpos.out, rfl, hown⟩, hbel⟩
end Go.Proofs.YtnjcnlbphaodcaaGreat

namespace Go.Proofs.YtnjcnlbphaodcaaGreat
open Go.RowKit

theorem hp_lt {w : World} {p : Nat} {o : Obj} (h : w.heap[p]? = some o) : p < w.heap.size := (Array.getElem?_eq_some_iff.1 h).1
theorem hp_cell {w : World} {p i : Nat} {cs : Array Value} {t : TypeId} {fr : Nat × Nat} (h : w.heap[p]? = some (.cells cs t fr)) : w.cell? ⟨p, i, none⟩ = cs[i]? := by
  simp [World.cell?, h]
theorem hp_free {w : World} {p i : Nat} {cs : Array Value} {t : TypeId} (h : w.heap[p]? = some (.cells cs t (0, 0))) : w.frozen? ⟨p, i, none⟩ = false := by
  simp [World.frozen?, h]
/-- nil, or a store without entries -/
def SDead (w : World) (p : Value) : Prop :=
  p = .pointer none ∨ ∃ b, p = .pointer (some ⟨b, 0, none⟩) ∧ b < w.heap.size ∧ w.cell? ⟨b, 0, none⟩ = some (.map none)
theorem SDead.below {w w' : World} {p : Value} (h : SDead w p) (hb : Below w.heap.size w w') : SDead w' p := by
  rcases h with h | ⟨b, h1, h2, h3⟩
  · exact .inl h
  · exact .inr ⟨b, h1, Nat.lt_of_lt_of_le h2 hb.size, by rw [hb.cell (p := ⟨b, 0, none⟩) h2]; exact h3⟩
set_option maxRecDepth 100000 in
set_option maxHeartbeats 400000 in
theorem made_dead (p : Value) (w : World) (h : SDead w p) : Calls Tryz.prog 15 #[p] w fun e w' => e = .returned (.bool false) ∧ w = w' := by
  rcases h with rfl | ⟨b, rfl, h2, h3⟩
  · go_enter Tryz.func15, Tryz.ntmps15
    go_wp2
    go_ret
    exact ⟨rfl, rfl⟩
  · have hm := fun w => run_neq_map_nil (P := Tryz.prog) w 31 _ _ none Tryz.underlying31
    go_enter Tryz.func15, Tryz.ntmps15
    go_wp2
    go_ret
    exact ⟨rfl, rfl⟩
set_option maxRecDepth 100000 in
set_option maxHeartbeats 400000 in
theorem sget_dead (p : Value) (k : ByteArray) (w : World) (h : SDead w p) : Calls Tryz.prog 30 #[p, .string k] w fun e w' => e = .returned (.tuple #[.string { data := #[] }, .bool false]) ∧ w = w' := by
  have HM := Lib.hid (made_dead p w h)
  clear h
  go_enter Tryz.func30, Tryz.ntmps30
  go_wp2_with (go_at_call 15; refine HM.out.mono ?_; rintro e w1 ⟨rfl, rfl⟩)
  go_ret2
  exact ⟨rfl, rfl⟩
theorem nums_none (w : World) : Calls Tryz.prog 51 #[.string { data := #[] }] w fun e w' => e = .returned (.tuple #[.slice (some ⟨w.heap.size, 0, none⟩) 0 0, .bool true]) ∧ Below w.heap.size w w' := by
  refine (nums_walk { data := #[] } 0 w rfl (by omega)).mono ?_
  rintro e w' ⟨⟨_, he, _⟩ | ⟨⟨i, hi, _⟩, _⟩, hb⟩
  · exact ⟨he, hb⟩
  · omega
set_option maxRecDepth 100000 in
set_option maxHeartbeats 400000 in
theorem numbers_dead (p : Value) (k : ByteArray) (w : World) (h : SDead w p) : Calls Tryz.prog 29 #[.func (Fn.func 30) #[p] #[], .string k] w fun e w' => e = .returned (.slice (some ⟨w.heap.size, 0, none⟩) 0 0) ∧ Below w.heap.size w w' := by
  have HG := Lib.hid (sget_dead p k w h)
  have HN := Lib.hid (nums_none w)
  clear h
  go_enter Tryz.func29, Tryz.ntmps29
  go_wp2_with (first
    | (go_at_call 51; refine HN.out.mono ?_; rintro e w1 ⟨rfl, hb⟩; have HB := Lib.hid hb; clear hb)
    | (go_at_call 30; refine HG.out.mono ?_; rintro e w1 ⟨rfl, rfl⟩))
  go_ret
  exact ⟨rfl, HB.out⟩
set_option maxRecDepth 100000 in
set_option maxHeartbeats 400000 in
theorem row_dead (p : Value) (k : ByteArray) (w : World) (h : SDead w p) : Calls Tryz.prog 10 #[p, .string k] w fun e w' => e = .returned (.slice (some ⟨w.heap.size, 0, none⟩) 0 0) ∧ Below w.heap.size w w' := by
  have HN := Lib.hid (numbers_dead p k w h)
  clear h
  go_enter Tryz.func10, Tryz.ntmps10
  go_wp2_with (go_at_call 29; refine HN.out.mono ?_; rintro e w1 ⟨rfl, hb⟩; have HB := Lib.hid hb; clear hb)
  go_ret
  exact ⟨rfl, HB.out⟩
/-- delay's nothing -/
def dv0 : Value := .agg #[.bool false, .int .i64 0, .int .i64 0, .int .i64 0, .bool false]
def two2 (a b : Int) : Nat → Int
  | 0 => a
  | _ => b
theorem il2 (a b : Int) (w : World) (t : TypeId) (ha : a < 2 ^ 63) (hb : b < 2 ^ 63) : Il (w.alloc (.cells #[.int .i64 a, .int .i64 b] t)) (some ⟨w.heap.size, 0, none⟩) 2 (two2 a b) := by
  refine ⟨fun i => by unfold two2; split <;> assumption, fun _ => ⟨w.heap.size, 0, rfl, by simp, fun i hi => ?_⟩⟩
  rcases (by omega : i = 0 ∨ i = 1) with rfl | rfl
  · rw [World.cell?_alloc_new]; rfl
  · rw [World.cell?_alloc_new]; rfl
end Go.Proofs.YtnjcnlbphaodcaaGreat
