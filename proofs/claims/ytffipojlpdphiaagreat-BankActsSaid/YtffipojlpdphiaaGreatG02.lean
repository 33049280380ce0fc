/- keys.number, walked. -/
import Derived.Test.YtffipojlpdphiaaGreatG01
import Derived.Deep.AppendLies
namespace Go.Proofs.YtffipojlpdphiaaGreat
open Go.RowKit

/-- the number of the first k bytes -/
def numv (v : ByteArray) : Nat → Nat
  | 0 => 0
  | k + 1 => numv v k * 256 + (v.data.toList.getD k 0).toNat
theorem numv_lt (v : ByteArray) : ∀ k, numv v k < 2 ^ (8 * k)
  | 0 => by simp [numv]
  | k + 1 => by
    have h := numv_lt v k
    have h2 := (v.data.toList.getD k 0).toNat_lt
    rw [numv, show 8 * (k + 1) = 8 * k + 8 by omega, Nat.pow_add]
    omega
theorem or_byte {n y : Nat} (hn : n < 2 ^ 56) (hy : y < 256) : bits BinOp.or IntKind.u64 (IntKind.u64.wrap ((n : Int) * 256)) (IntKind.u64.wrap (y : Int)) = ((n * 256 + y : Nat) : Int) := by
  have h1 : IntKind.u64.wrap ((n : Int) * 256) = ((n * 256 : Nat) : Int) := by rw [IntKind.wrap_u64]; omega
  have h2 : IntKind.u64.wrap (y : Int) = ((y : Nat) : Int) := by rw [IntKind.wrap_u64]; omega
  rw [h1, h2, u64_or_nat _ _ (by omega) (by omega), nat_join 8 _ _ (by omega) (by omega)]
theorem num_top (n : Nat) : ((n : Int) / 9223372036854775808 == 0) = decide (n < 2 ^ 63) := by
  by_cases h : n < 2 ^ 63
  · rw [decide_eq_true h, beq_iff_eq]; omega
  · rw [decide_eq_false h, beq_eq_false_iff_ne]; omega
def NumRel (v : ByteArray) (w : World) (x i : Value) (wr : World) : Prop := ∃ k : Nat, k ≤ 8 ∧ i = .int .i64 (k : Nat) ∧ x = .int .u64 (numv v k : Nat) ∧ wr = w
end Go.Proofs.YtffipojlpdphiaaGreat

namespace Go.Proofs.YtffipojlpdphiaaGreat
open Go.RowKit

theorem one_cell' (w : World) (x : Int) (t : TypeId) : ∀ j u, ([.int .i64 x] : List Value)[j]? = some u → (w.alloc (.cells #[.int .i64 x] t)).cell? ((⟨w.heap.size, 0, none⟩ : Addr).add j) = some u := by
  intro j u h
  match j, h with
  | 0, h => simp at h; subst h; simp [Addr.add]
theorem one_one' (x : Int) : ∀ u ∈ ([.int .i64 x] : List Value), u.oneCell' = true := fun u hu => by simp at hu; subst hu; rfl
theorem drop8 (s : ByteArray) : (s.extract 8 s.size).data.toList = s.data.toList.drop 8 := by
  have hl : s.data.toList.length = s.size := rfl
  rw [ByteArray.data_extract, Array.toList_extract, List.extract_eq_take_drop, List.take_of_length_le (by rw [List.length_drop]; omega)]
theorem infoI64 : (Tryz.prog.info? 3).map (fun i => (i.zero, i.size, i.bytes)) = some (some (.int .i64 0), 1, 8) := by kernel_rfl
/-- the k-th number of a text -/
def numl (l : List UInt8) : Nat → Nat
  | 0 => 0
  | k + 1 => numl l k * 256 + (l.getD k 0).toNat
theorem numv_numl (v : ByteArray) : ∀ k, numv v k = numl v.data.toList k
  | 0 => rfl
  | k + 1 => by rw [numv, numl, numv_numl v k]
def chunk (v : ByteArray) (i : Nat) : Nat := numl (v.data.toList.drop (8 * i)) 8
def i64n (f : Nat → Nat) (k : Nat) : List Value := (List.range k).map fun i => Value.int .i64 (f i : Nat)
theorem i64n_succ (f : Nat → Nat) (k : Nat) : i64n f (k + 1) = i64n f k ++ [.int .i64 (f k : Nat)] := by simp [i64n, List.range_succ]
def NumsRel (v : ByteArray) (m g : Nat) (w : World) (x y : Value) (wr : World) : Prop :=
  ∃ (k : Nat) (s : ByteArray), k ≤ m ∧ x = .string s ∧ s.data.toList = v.data.toList.drop (8 * k) ∧ s.size = 8 * (m - k) ∧ y = .slice (some ⟨g, 0, none⟩) k m ∧ (∀ i, i < k → chunk v i < 2 ^ 63) ∧
    wr.ownsRow w.heap.size 3 1 (.slice (some ⟨g, 0, none⟩) k m) k (i64n (chunk v) k) ∧ Below w.heap.size w wr ∧ w.heap.size < wr.heap.size
def NumsPost (v : ByteArray) (m : Nat) (w : World) (e : Ending) (w' : World) : Prop :=
  (((∀ i, i < m → chunk v i < 2 ^ 63) ∧ e = .returned (.tuple #[.slice (some ⟨w.heap.size, 0, none⟩) m m, .bool true]) ∧ w'.ownsRow w.heap.size 3 1 (.slice (some ⟨w.heap.size, 0, none⟩) m m) m (i64n (chunk v) m)) ∨
    ((∃ i, i < m ∧ ¬ chunk v i < 2 ^ 63) ∧ e = .returned (.tuple #[.slice none 0 0, .bool false]))) ∧ Below w.heap.size w w'
def lenOf : Value → Nat
  | .string s => s.size
  | _ => 0
end Go.Proofs.YtffipojlpdphiaaGreat

namespace Go.Proofs.YtffipojlpdphiaaGreat
open Go.RowKit

theorem hp_lt {w : World} {p : Nat} {o : Obj} (h : w.heap[p]? = some o) : p < w.heap.size := (Array.getElem?_eq_some_iff.1 h).1
theorem hp_cell {w : World} {p i : Nat} {cs : Array Value} {t : TypeId} {fr : Nat × Nat} (h : w.heap[p]? = some (.cells cs t fr)) : w.cell? ⟨p, i, none⟩ = cs[i]? := by
  simp [World.cell?, h]
theorem hp_free {w : World} {p i : Nat} {cs : Array Value} {t : TypeId} (h : w.heap[p]? = some (.cells cs t (0, 0))) : w.frozen? ⟨p, i, none⟩ = false := by
  simp [World.frozen?, h]
/-- nil, or a store without entries -/
def SDead (w : World) (p : Value) : Prop :=
  p = .pointer none ∨ ∃ b, p = .pointer (some ⟨b, 0, none⟩) ∧ b < w.heap.size ∧ w.cell? ⟨b, 0, none⟩ = some (.map none)
theorem SDead.below {w w' : World} {p : Value} (h : SDead w p) (hb : Below w.heap.size w w') : SDead w' p := by
  rcases h with h | ⟨b, h1, h2, h3⟩
  · exact .inl h
  · exact .inr ⟨b, h1, Nat.lt_of_lt_of_le h2 hb.size, by rw [hb.cell (p := ⟨b, 0, none⟩) h2]; exact h3⟩
set_option maxRecDepth 100000 in
set_option maxHeartbeats 400000 in
theorem made_dead (p : Value) (w : World) (h : SDead w p) : Calls Tryz.prog 57 #[p] w fun e w' => e = .returned (.bool false) ∧ w = w' := by
  rcases h with rfl | ⟨b, rfl, h2, h3⟩
  · go_enter Tryz.func57, Tryz.ntmps57
    go_wp2
    go_ret
    exact ⟨rfl, rfl⟩
  · have hm := fun w => run_neq_map_nil (P := Tryz.prog) w 49 _ _ none Tryz.underlying49
    go_enter Tryz.func57, Tryz.ntmps57
    go_wp2
    go_ret
    exact ⟨rfl, rfl⟩
set_option maxRecDepth 100000 in
set_option maxHeartbeats 400000 in
theorem sget_dead (p : Value) (k : ByteArray) (w : World) (h : SDead w p) : Calls Tryz.prog 47 #[p, .string k] w fun e w' => e = .returned (.tuple #[.string { data := #[] }, .bool false]) ∧ w = w' := by
  have HM := Lib.hid (made_dead p w h)
  clear h
  go_enter Tryz.func47, Tryz.ntmps47
  go_wp2_with (go_at_call 57; refine HM.out.mono ?_; rintro e w1 ⟨rfl, rfl⟩)
  go_ret2
  exact ⟨rfl, rfl⟩
/-- delay's nothing -/
def dv0 : Value := .agg #[.bool false, .int .i64 0, .int .i64 0, .int .i64 0, .bool false]
def two2 (a b : Int) : Nat → Int
  | 0 => a
  | _ => b
theorem il2 (a b : Int) (w : World) (t : TypeId) (ha : a < 2 ^ 63) (hb : b < 2 ^ 63) : Il (w.alloc (.cells #[.int .i64 a, .int .i64 b] t)) (some ⟨w.heap.size, 0, none⟩) 2 (two2 a b) := by
  refine ⟨fun i => by unfold two2; split <;> assumption, fun _ => ⟨w.heap.size, 0, rfl, by simp, fun i hi => ?_⟩⟩
  rcases (by omega : i = 0 ∨ i = 1) with rfl | rfl
  · rw [World.cell?_alloc_new]; rfl
  · rw [World.cell?_alloc_new]; rfl
end Go.Proofs.YtffipojlpdphiaaGreat
