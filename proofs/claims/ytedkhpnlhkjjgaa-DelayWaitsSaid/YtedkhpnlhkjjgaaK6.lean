/- keys.Nums, walked. -/
import Derived.Test.YtedkhpnlhkjjgaaK5
import Derived.Deep.AppendLies
namespace Go.Proofs.Ytedkhpnlhkjjgaa
open Go.RowKit

theorem one_cell' (w : World) (x : Int) (t : TypeId) : ∀ j u, ([.int .i64 x] : List Value)[j]? = some u → (w.alloc (.cells #[.int .i64 x] t)).cell? ((⟨w.heap.size, 0, none⟩ : Addr).add j) = some u := by
  intro j u h
  match j, h with
  | 0, h => simp at h; subst h; simp [Addr.add]
theorem one_one' (x : Int) : ∀ u ∈ ([.int .i64 x] : List Value), u.oneCell' = true := fun u hu => by simp at hu; subst hu; rfl
theorem drop8 (s : ByteArray) : (s.extract 8 s.size).data.toList = s.data.toList.drop 8 := by
  have hl : s.data.toList.length = s.size := rfl
  rw [ByteArray.data_extract, Array.toList_extract, List.extract_eq_take_drop, List.take_of_length_le (by rw [List.length_drop]; omega)]
theorem infoI64 : (Try.prog.info? 3).map (fun i => (i.zero, i.size, i.bytes)) = some (some (.int .i64 0), 1, 8) := by kernel_rfl
/-- the k-th number of a text -/
def numl (l : List UInt8) : Nat → Nat
  | 0 => 0
  | k + 1 => numl l k * 256 + (l.getD k 0).toNat
theorem numv_numl (v : ByteArray) : ∀ k, numv v k = numl v.data.toList k
  | 0 => rfl
  | k + 1 => by rw [numv, numl, numv_numl v k]
def chunk (v : ByteArray) (i : Nat) : Nat := numl (v.data.toList.drop (8 * i)) 8
def i64n (f : Nat → Nat) (k : Nat) : List Value := (List.range k).map fun i => Value.int .i64 (f i : Nat)
theorem i64n_succ (f : Nat → Nat) (k : Nat) : i64n f (k + 1) = i64n f k ++ [.int .i64 (f k : Nat)] := by simp [i64n, List.range_succ]
def NumsRel (v : ByteArray) (m g : Nat) (w : World) (x y : Value) (wr : World) : Prop :=
  ∃ (k : Nat) (s : ByteArray), k ≤ m ∧ x = .string s ∧ s.data.toList = v.data.toList.drop (8 * k) ∧ s.size = 8 * (m - k) ∧ y = .slice (some ⟨g, 0, none⟩) k m ∧ (∀ i, i < k → chunk v i < 2 ^ 63) ∧
    wr.ownsRow w.heap.size 3 1 (.slice (some ⟨g, 0, none⟩) k m) k (i64n (chunk v) k) ∧ Below w.heap.size w wr ∧ w.heap.size < wr.heap.size
def NumsPost (v : ByteArray) (m : Nat) (w : World) (e : Ending) (w' : World) : Prop :=
  (((∀ i, i < m → chunk v i < 2 ^ 63) ∧ e = .returned (.tuple #[.slice (some ⟨w.heap.size, 0, none⟩) m m, .bool true]) ∧ w'.ownsRow w.heap.size 3 1 (.slice (some ⟨w.heap.size, 0, none⟩) m m) m (i64n (chunk v) m)) ∨
    ((∃ i, i < m ∧ ¬ chunk v i < 2 ^ 63) ∧ e = .returned (.tuple #[.slice none 0 0, .bool false]))) ∧ Below w.heap.size w w'
def lenOf : Value → Nat
  | .string s => s.size
  | _ => 0
set_option maxRecDepth 100000 in
theorem number_ok_c (s : ByteArray) (n : Nat) (w : World) (h : n = numv s 8 ∧ n < 2 ^ 63) (hv : 8 ≤ s.size) (hv2 : (s.size : Int) ≤ 9223372036854775807) : Calls Try.prog 140 #[.string s] w fun e w' => e = .returned (.tuple #[.int .i64 (n : Nat), .bool true]) ∧ w' = w :=
  (number_walk s w hv hv2).mono fun e w' ⟨he, hw⟩ => ⟨by rw [he, ← h.1, decide_eq_true h.2, IntWalk.i64_in _ (by have := h.2; omega)], hw⟩
theorem number_no_c (s : ByteArray) (w : World) (h : ¬ numv s 8 < 2 ^ 63) (hv : 8 ≤ s.size) (hv2 : (s.size : Int) ≤ 9223372036854775807) : Calls Try.prog 140 #[.string s] w fun e w' => (∃ x, e = .returned (.tuple #[.int .i64 x, .bool false])) ∧ w' = w :=
  (number_walk s w hv hv2).mono fun e w' ⟨he, hw⟩ => ⟨⟨IntKind.i64.wrap (numv s 8 : Nat), by rw [he, decide_eq_false h]⟩, hw⟩
set_option maxRecDepth 100000 in
set_option maxHeartbeats 1000000 in
theorem nums_walk (v : ByteArray) (m : Nat) (w : World) (hv : v.size = 8 * m) (hm : m ≤ 100) : Calls Try.prog 113 #[.string v] w (NumsPost v m w) := by
  obtain ⟨i0, hi, hz0, hz1, hz2⟩ := info_parts infoI64
  have hmI : (m : Int) ≤ 100 := by omega
  have e1 : (v.size : Int) = 8 * (m : Int) := by omega
  have e2 : Int.tmod (8 * (m : Int)) 8 = 0 := Int.mul_tmod_right _ _
  have e3 : Int.tdiv (8 * (m : Int)) 8 = m := Int.mul_tdiv_cancel_left _ (by decide)
  go_enter Try.func113, Try.ntmps113
  go_wp2_with (at_make; refine wpList_make_own _ rfl _ _ _ rfl (w.heap.size) 3 i0 (.int .i64 0) 1 Try.underlying30 hi hz0 hz1 .i64 .i64 _ m rfl rfl (by omega) (by rw [hz2]; omega) (by unfold maxLen; omega) (Nat.le_refl _) ?_; intro w1 own1 hg1)
  go_loopw [0, 4] (NumsRel v m w.heap.size w) (fun x _ _ => lenOf x)
  case atStart =>
    have hlt1 := (own1.lt w.heap.size rfl).2
    exact ⟨0, v, Nat.zero_le _, rfl, rfl, by omega, rfl, fun i h => absurd h (by omega), own1, (Below.refl _ _).grown hg1 (Nat.le_refl _) (fun j hj => by cases hj), hlt1⟩
  case round =>
    obtain ⟨k, s, hk, rfl, hs, hsz, rfl, hpos, hown, hbel, hlt0⟩ := hrel
    by_cases hlt : k < m
    · have hne : s.toList.isEmpty = false := by
        rw [ByteArray.toList_eq, hs, List.isEmpty_eq_false_iff]
        intro e
        have := congrArg List.length e
        have hl : v.data.toList.length = v.size := rfl
        rw [List.length_drop] at this
        simp at this
        omega
      obtain ⟨n, hn⟩ : ∃ n, n = numv s 8 := ⟨_, rfl⟩
      have Hn := Lib.hid hn
      have Hs := Lib.hid hs
      have Hpos := Lib.hid hpos
      clear hn hs hpos
      have hsI : (s.size : Int) ≤ 800 := by omega
      have hs8 : (8 : Int) ≤ s.size := by omega
      have cases2 : (∃ h : Hid (n < 2 ^ 63), True) ∨ (∃ h : Hid (¬ n < 2 ^ 63), True) := by
        by_cases h : n < 2 ^ 63
        · exact .inl ⟨Lib.hid h, trivial⟩
        · exact .inr ⟨Lib.hid h, trivial⟩
      rcases cases2 with ⟨hb, _⟩ | ⟨hb, _⟩
      · go_wp2_with (first
          | (go_at_call 140; refine (number_ok_c s n _ ⟨Hn.out, hb.out⟩ (by omega) (by omega)).mono ?_; rintro e w2 ⟨rfl, rfl⟩)
          | (at_builtin; refine wpList_append_fits _ rfl (.tmp 26) (.tmp 28) _ rfl w.heap.size 3 i0 1 Try.underlying30 hi hz1 w.heap.size k m (i64n (chunk v) k) rfl (hown.alloc _) ⟨w2.heap.size, 0, none⟩ 1 1 [.int .i64 (n : Nat)] rfl rfl (one_cell' _ _ _) (one_one' _) (by omega) ?_; intro w3 hown3 hg3))
        go_roundw
        case rel =>
          have hn2 : n = chunk v k := by rw [Hn.out, numv_numl, Hs.out]; rfl
          refine ⟨k + 1, s.extract 8 (8 * (m - k)), by omega, rfl, ?_, ?_, rfl, ?_, ?_, ?_, ?_⟩
          · rw [← hsz, drop8, Hs.out, List.drop_drop]; rfl
          · rw [ByteArray.size_extract]; omega
          · intro i hi'
            rcases Nat.lt_or_ge i k with h | h
            · exact Hpos.out i h
            · rw [show i = k by omega, ← hn2]; exact hb.out
          · rw [i64n_succ, ← hn2]; exact hown3
          · exact (hbel.alloc (Nat.le_of_lt hlt0) _).grown hg3 (by simp; omega) (fun j hj => by cases hj; exact Nat.le_refl _)
          · have := hg3.size; simp at this; omega
        case measure => simp [lenOf]; omega
      · go_wp2_with (go_at_call 140; refine (number_no_c s _ (by rw [← Hn.out]; exact hb.out) (by omega) (by omega)).mono ?_; rintro e w2 ⟨⟨x, rfl⟩, rfl⟩)
        refine bodyPost_ret (v := .tuple #[.slice none 0 0, .bool false]) (by simp [results, Try.results113, go_sem]) rfl ⟨.inr ⟨⟨k, hlt, ?_⟩, rfl⟩, hbel⟩
        have hn2 : n = chunk v k := by rw [Hn.out, numv_numl, Hs.out]; rfl
        rw [← hn2]; exact hb.out
    · obtain rfl : k = m := by omega
      have hne : s.toList.isEmpty = true := by
        rw [ByteArray.toList_eq, List.isEmpty_iff]
        exact List.eq_nil_of_length_eq_zero (by show s.size = 0; omega)
      have Hs := Lib.hid hs
      have Hpos := Lib.hid hpos
      clear hs hpos
      go_wp2
      refine bodyPost_ret (v := .tuple #[.slice (some ⟨w.heap.size, 0, none⟩) k k, .bool true]) (by simp [results, Try.results113, go_sem]) rfl ⟨.inl ⟨Hpos.out, rfl, hown⟩, hbel⟩
end Go.Proofs.Ytedkhpnlhkjjgaa
