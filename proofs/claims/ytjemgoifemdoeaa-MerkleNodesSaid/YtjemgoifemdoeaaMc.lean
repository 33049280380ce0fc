/- merkle.Depth; slices.Repeat of one Hash, once. -/
import Derived.Test.YtjemgoifemdoeaaMb
import Derived.Test.YtjemgoifemdoeaaShelf
import Derived.Laws.CopyRow
import Derived.Deep.AppendLies
namespace Go.Proofs.Ytjemgoifemdoeaa
open Go.RowKit

def depthV (n : Int) : Nat := if n ≤ 1 then 0 else Lib.bitLen (n - 1).toNat
set_option maxRecDepth 100000 in
theorem depth_walk (n : Int) (hn : n ≤ 9223372036854775807) (w : World) : Calls Try.prog 36 #[.int .i64 n] w fun e w' => e = .returned (.int .i64 (depthV n : Nat)) ∧ w = w' := by
  by_cases h : n ≤ 1
  · have e : depthV n = 0 := if_pos h
    rw [e]
    go_enter Try.func36, Try.ntmps36
    go_wp2
    go_ret
    exact ⟨rfl, rfl⟩
  · obtain ⟨r, hr⟩ : ∃ r, r = depthV n := ⟨_, rfl⟩
    have HC := Lib.hid (show ∀ w, Calls Try.prog 66 #[.int .u64 (n - 1)] w fun e w' => e = .returned (.int .i64 (r : Nat)) ∧ w' = w from fun w => by
      have := Try.bits_Len (n - 1) w (by omega) (by omega)
      rw [hr]; unfold depthV; rw [if_neg h]; exact this)
    rw [← hr]
    have v0 : IntKind.i64.wrap (n - 1) = n - 1 := IntWalk.i64_in _ (by omega)
    have v1 : IntKind.u64.wrap (n - 1) = n - 1 := by rw [IntKind.wrap_u64]; omega
    clear hr
    go_enter Try.func36, Try.ntmps36
    go_wp2_with fail
    refine (HC.out _).mono ?_
    rintro e _ ⟨rfl, rfl⟩
    go_wp2
    go_ret
    exact ⟨rfl, rfl⟩
theorem run_copy_rows {P : Program} (w : World) (dT sT ty elem : TypeId) (g o dLen dCap : Nat) (a : Addr) (sLen sCap : Nat) (cur : Array Value) (t : TypeId) (cs : List Value) (s : Nat)
    (hu : P.underlying dT = some (.slice elem)) (hs : (P.info? elem).map (·.size) = some s)
    (hg : w.heap[g]? = some (.cells cur t (0, 0))) (hn : cs.length = Nat.min sLen dLen * s)
    (hsrc : ∀ j v, cs[j]? = some v → w.cell? (a.add j) = some v) (hfit : o + cs.length ≤ cur.size) (h1 : ∀ v ∈ cs, v.oneCell' = true) :
    (Builtin.copy_ #[dT, sT] ty #[.slice (some ⟨g, o, none⟩) dLen dCap, .slice (some a) sLen sCap]).run P w =
      .ok (goInt (Nat.min sLen dLen)) (w.setRow g (cur.toList.take o ++ cs ++ cur.toList.drop (o + cs.length)).toArray) := by
  have hl := run_loadCells_list (P := P) w a cs hsrc
  have hst := run_storeCells_at P g o t cs 0 cur w hg (by simpa using hfit) h1
  cases hq : P.info? elem with
  | none => simp [hq] at hs
  | some i =>
    have hi : i.size = s := by simpa [hq] using hs
    simp [Builtin.copy_, run_underlying hu, Builtin.lenOf, Builtin.firstCells, sizeOf, typeInfo, hq, hi, ← hn, hl, hst]
theorem hash_make_some {P : Program} (w : World) {ops : Array Oper} {rest : List Oper} {o : Oper} {a : Act} {Q : Exit → Act → World → Prop}
    (hg : o.guard = none) (l c : Operand) (t : TypeId) (hop : o.op = Op.makeSlice t l c)
    (e : TypeId) (i : TypeInfo) (z : Value) (size : Nat) (h1 : P.underlying t = some (.slice e)) (h2 : P.info? e = some i) (h3 : i.zero = some z) (h4 : i.size = size)
    (kl kc : IntKind) (L C : Int) (n m : Nat) (hl : a.eval l = .int kl L) (hc : a.eval c = .int kc C) (hL : L = (n : Int)) (hC : C = (m : Int)) (hnm : n ≤ m) (b2 : i.bytes * m ≤ 281474976710656) (b3 : m ≤ maxLen)
    (hK : wpList P ops Q rest (a.put o.dst (.slice (some ⟨w.heap.size, 0, none⟩) n m)) (w.alloc (.cells (madeCells z.cells (m * size)) e))) :
    wpList P ops Q (o :: rest) a w := by
  subst h4
  have h63' : (m : Int) ≤ 9223372036854775807 := by
    have h := b3
    simp [maxLen] at h
    omega
  have hb' : (i.bytes : Int) * (m : Int) ≤ 281474976710656 := by
    have h : ((i.bytes * m : Nat) : Int) ≤ 281474976710656 := by omega
    rwa [Int.natCast_mul] at h
  have hr := run_make (P := P) w t e i z h1 h2 h3 kl kc n m (by omega) (by omega) hb' h63'
  simp only [Int.toNat_natCast] at hr
  refine wpList_plain hg fun K hK' => ?_
  subst hL
  subst hC
  unfold Oper.wp
  simp [execOp, hop, hl, hc, hr, Result.andThen]
  exact hK' _ _ hK
theorem oinfoHash : (Try.prog.info? 25).map (fun i => (i.zero, i.size, i.bytes)) = some (some (.agg h32), 32, 32) := by kernel_rfl
set_option maxRecDepth 100000 in
set_option maxHeartbeats 1000000 in
theorem repeat_one (g : Nat) (cs : Array Value) (w : World) (hg : w.heap[g]? = some (.cells cs 25 (0, 0))) (hs : cs.size = 32) (h1 : ∀ v ∈ cs.toList, v.oneCell' = true) :
    Calls Try.prog 64 #[.slice (some ⟨g, 0, none⟩) 1 1, .int .i64 1] w fun e w' => e = .returned (.slice (some ⟨w.heap.size, 0, none⟩) 1 1) ∧ w'.heap[w.heap.size]? = some (.cells cs 25 (0, 0)) ∧ Below w.heap.size w w' := by
  have HM := Lib.hid (fun w => Try.bits_Mul 1 1 (by decide) (by decide) w)
  obtain ⟨i0, hi, hz0, hz1, hz2⟩ := info_parts oinfoHash
  have H1 := Lib.hid h1
  have HSR := Lib.hid (World.news_of_block (w := w.alloc (.cells (madeCells h32 32) 25)) ((heap_alloc_old _ _ (row_lt hg)).trans hg))
  have hcp : (Builtin.copy_ #[67, 67] 3 #[.slice (some ⟨w.heap.size, 0, none⟩) 1 1, .slice (some ⟨g, 0, none⟩) 1 1]).run Try.prog (w.alloc (.cells (madeCells h32 32) 25)) = .ok (.int .i64 1) ((w.alloc (.cells (madeCells h32 32) 25)).setRow w.heap.size cs) := by
    have hmz : (madeCells h32 32).size = 32 := by rw [size_madeCells]
    have hd : (madeCells h32 32).toList.drop (0 + cs.toList.length) = [] := List.drop_eq_nil_of_le (by rw [Array.length_toList, Array.length_toList, hmz, hs]; decide)
    have e := run_copy_rows (P := Try.prog) (w.alloc (.cells (madeCells h32 32) 25)) 67 67 3 25 w.heap.size 0 1 1 ⟨g, 0, none⟩ 1 1 (madeCells h32 32) 25 cs.toList 32 Try.underlying67 h32_info (heap_alloc_new _ _) (by rw [Array.length_toList, hs]; rfl) HSR.out (by rw [hmz, Array.length_toList, hs]; decide) h1
    rw [e, hd, List.take_zero, List.nil_append, List.append_nil, Array.toArray_toList]
    rfl
  clear h1
  go_enter Try.func64, Try.ntmps64
  go_wp2_with fail
  refine (HM.out _).mono ?_
  rintro e wM ⟨rfl, hw⟩
  rw [hw]
  clear hw
  have hmz : (madeCells h32 32).size = 32 := by rw [size_madeCells]
  have HMZ := Lib.hid hmz
  clear hmz
  go_upto_region 8 with ((at_make; refine hash_make_some _ rfl _ _ _ rfl 25 i0 (.agg h32) 32 Try.underlying67 hi hz0 hz1 .i64 .i64 _ _ 1 1 rfl rfl (by omega) (by omega) (by omega) (by rw [hz2]; omega) (by unfold maxLen; omega) ?_))
  obtain ⟨wx, ex⟩ : ∃ wx, wx = (w.alloc (.cells (madeCells h32 32) 25)).setRow w.heap.size cs := ⟨_, rfl⟩
  rw [← ex]
  have HBx := Lib.hid (show Below w.heap.size w wx by rw [ex]; exact below_setRow ((Below.refl _ _).alloc (Nat.le_refl _) _) (Nat.le_refl _) _)
  have Rx := Lib.hid (show wx.heap[w.heap.size]? = some (.cells cs 25 (0, 0)) by rw [ex]; exact setRow_heap _ _ _ _ _ _ (heap_alloc_new _ _))
  clear ex hcp
  go_loopw [8] (fun n wr => n = .int .i64 1 ∧ wx = wr) (fun _ _ => 0)
  case atStart => exact ⟨rfl, rfl⟩
  case round =>
    obtain ⟨rfl, rfl⟩ := hrel
    go_wp2
    go_ret
    exact ⟨rfl, Rx.out, HBx.out⟩
theorem exec_load_hash {P : Program} {o : Oper} {a : Act} {w : World} (ty : TypeId) (x : Operand) (ho : o.op = .load ty x) (g : Nat) (hx : a.eval x = .pointer (some ⟨g, 0, none⟩)) (t : TypeId) (cs : Array Value) (fr : Nat × Nat) (d : TypeDesc) (hg : w.heap[g]? = some (.cells cs t fr))
    (hu : P.underlying ty = some d) (hd : (match d with | .struct _ | .array _ _ => true | _ => false) = true) (hi : (P.info? ty).map (·.size) = some cs.size) : (execOp a.eval o).run P w = .ok (.value (.agg cs)) w := by
  unfold execOp
  simp only [ho, hx, Instr.loadAt, Instr.sureAddr, Sem.run_bind, Sem.run_pure, Result.andThen_ok, run_loadVar_row w g t ty cs fr d hg hu hd hi]
end Go.Proofs.Ytjemgoifemdoeaa
