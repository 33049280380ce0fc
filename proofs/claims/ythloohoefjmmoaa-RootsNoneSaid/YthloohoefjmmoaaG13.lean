/- Roots on a store that no call made; a hash's variable. -/
import Derived.Test.YthloohoefjmmoaaG03
import Derived.Test.YthloohoefjmmoaaG12
import Derived.Test.YthloohoefjmmoaaG01
import Derived.Test.YthloohoefjmmoaaG11
import Derived.Laws.Tables
import Derived.Laws.CopyOwn
import Derived.Deep.Cut
import Derived.Lib.BufferWrite
namespace Go.Proofs.Ythloohoefjmmoaa
open Go.RowKit Go.Maps

/-- a hash's cells -/
abbrev hc (f : Nat → Nat) : Array Value := (bys f 32).toArray
def hz : Array Value := #[.int .u8 0, .int .u8 0, .int .u8 0, .int .u8 0, .int .u8 0, .int .u8 0, .int .u8 0, .int .u8 0, .int .u8 0, .int .u8 0, .int .u8 0, .int .u8 0, .int .u8 0, .int .u8 0, .int .u8 0, .int .u8 0, .int .u8 0, .int .u8 0, .int .u8 0, .int .u8 0, .int .u8 0, .int .u8 0, .int .u8 0, .int .u8 0, .int .u8 0, .int .u8 0, .int .u8 0, .int .u8 0, .int .u8 0, .int .u8 0, .int .u8 0, .int .u8 0]
theorem hz_hc : hc (fun _ => 0) = hz := rfl
theorem hc_size (f : Nat → Nat) : (hc f).size = 32 := by simp [hc, bys_length]
theorem hi_info : (Try.prog.info? 32).map (·.size) = some 32 := by kernel_rfl
theorem hz_info : (Try.prog.info? 32).map (·.size) = some hz.size := hi_info
theorem hz_one : hz.all (·.oneCell') = true := by unfold hz; simp [Value.oneCell']
theorem res_cell_tmp {P : Program} {fn : Func} {p q : Tmp} {ty : TypeId} (h : fn.results = #[.cell p ty, .tmp q]) (tmps : Array Value) (w : World) (g : Nat) (t : TypeId) (cs : Array Value) (fr : Nat × Nat) (d : TypeDesc) (v : Value)
    (hp : tmps.getD p undef = .pointer (some ⟨g, 0, none⟩)) (hq : tmps.getD q undef = v) (hg : w.heap[g]? = some (.cells cs t fr))
    (hu : P.underlying ty = some d) (hd : (match d with | .struct _ | .array _ _ => true | _ => false) = true) (hi : (P.info? ty).map (·.size) = some cs.size) :
    (results fn tmps).run P w = .ok (.tuple #[.agg cs, v]) w := by
  have hp' : tmps[p]?.getD undef = .pointer (some ⟨g, 0, none⟩) := by simpa using hp
  have hq' : tmps[q]?.getD undef = v := by simpa using hq
  simp [results, h, hp', hq', asAddr, run_loadVar_row w g t ty cs fr d hg hu hd hi]
theorem res_cell_tmp3 {P : Program} {fn : Func} {p q r s : Tmp} {ty : TypeId} (h : fn.results = #[.cell p ty, .tmp q, .tmp r, .tmp s]) (tmps : Array Value) (w : World) (g : Nat) (t : TypeId) (cs : Array Value) (fr : Nat × Nat) (d : TypeDesc) (v x y : Value)
    (hp : tmps.getD p undef = .pointer (some ⟨g, 0, none⟩)) (hq : tmps.getD q undef = v) (hr : tmps.getD r undef = x) (hs : tmps.getD s undef = y) (hg : w.heap[g]? = some (.cells cs t fr))
    (hu : P.underlying ty = some d) (hd : (match d with | .struct _ | .array _ _ => true | _ => false) = true) (hi : (P.info? ty).map (·.size) = some cs.size) :
    (results fn tmps).run P w = .ok (.tuple #[.agg cs, v, x, y]) w := by
  have hp' : tmps[p]?.getD undef = .pointer (some ⟨g, 0, none⟩) := by simpa using hp
  have hq' : tmps[q]?.getD undef = v := by simpa using hq
  have hr' : tmps[r]?.getD undef = x := by simpa using hr
  have hs' : tmps[s]?.getD undef = y := by simpa using hs
  simp [results, h, hp', hq', hr', hs', asAddr, run_loadVar_row w g t ty cs fr d hg hu hd hi]
set_option maxRecDepth 100000 in
set_option maxHeartbeats 1000000 in
theorem rcount_dead (p : Value) (w : World) (h : SDead w p) : Calls Try.prog 9 #[p] w fun e w' => e = .returned (.int .i64 0) ∧ Below w.heap.size w w' := by
  have HT := Lib.hid (tbl_is 36 _ rfl w)
  have HD := Lib.hid h
  clear h
  go_enter Try.func9, Try.ntmps9
  go_wp2_with (first
    | (go_at_call 21; refine (cint_dead p _ w1 (HD.out.below HB1.out)).mono ?_; rintro e w2 ⟨rfl, hb2⟩; have HB2 := Lib.hid (HB1.out.trans (hb2.mono HB1.out.size)); clear hb2)
    | (go_at_call 22; refine HT.out.mono ?_; rintro e w1 ⟨rfl, hb1⟩; have HB1 := Lib.hid hb1; clear hb1))
  go_ret
  exact ⟨rfl, HB2.out⟩
set_option maxRecDepth 100000 in
set_option maxHeartbeats 1000000 in
theorem rpost_dead (p : Value) (f : Nat → Nat) (b t : Int) (w : World) (h : SDead w p) : Calls Try.prog 17 #[p, .agg (hc f), .int .i64 b, .int .i64 t] w fun e w' => e = .returned (.tuple #[.int .i64 0, .int .i64 1]) ∧ Below w.heap.size w w' := by
  have HB0 := Lib.hid ((Below.refl w.heap.size w).alloc (Nat.le_refl _) (.cells (hc f) 32))
  have HM := Lib.hid (made_dead p _ (h.below HB0.out))
  clear h
  go_enter Try.func17, Try.ntmps17
  go_wp2_with (go_at_call 31; refine HM.out.mono ?_; rintro e w1 ⟨rfl, rfl⟩)
  refine bodyPost_ret (v := .tuple #[.int .i64 0, .int .i64 1]) (by simp [results, Try.results17, go_sem]) rfl ⟨rfl, HB0.out⟩
set_option maxRecDepth 100000 in
set_option maxHeartbeats 1000000 in
theorem rget_dead (p : Value) (i : Int) (w : World) (h : SDead w p) (hi : i < 2 ^ 63) : Calls Try.prog 11 #[p, .int .i64 i] w fun e w' => e = .returned (.tuple #[.agg hz, .int .i64 0, .bool false, .bool false]) ∧ Below w.heap.size w w' := by
  have hb0 := (Below.refl w.heap.size w).alloc (Nat.le_refl _) (.cells hz 32)
  have hr0 := heap_alloc_new w (.cells hz 32)
  obtain ⟨w0, ew0⟩ : ∃ w0, w0 = w.alloc (.cells hz 32) := ⟨_, rfl⟩
  rw [← ew0] at hb0 hr0
  have HK := Lib.hid (key_some 37 (some ⟨w0.heap.size, 0, none⟩) 1 1 (fun _ => i) _ (il1 i w0 3 hi) (by omega))
  have HB0 := Lib.hid (And.intro hb0 hr0)
  have HB00 := Lib.hid ((Below.refl w0.heap.size w0).alloc (Nat.le_refl _) (.cells #[.int .i64 i] 3))
  have HD := Lib.hid (h.below hb0)
  have HW := Lib.hid ew0
  clear h hi hb0 hr0 ew0
  go_enter Try.func11, Try.ntmps11
  go_upto_region 1 with fail
  have hw0 := HW.out
  unfold hz at hw0
  rw [← hw0]
  clear hw0
  go_upto_region 3 with (first
    | (go_at_call 25; refine (row_dead p K w1 (HD.out.below HB1.out)).mono ?_; rintro e w2 ⟨rfl, hb2⟩; have HB2 := Lib.hid (HB1.out.trans (hb2.mono HB1.out.size)); clear hb2)
    | (go_at_call 26; refine HK.out.mono ?_; rintro e w1 ⟨⟨K, rfl, _⟩, hb1⟩; have HB1 := Lib.hid (HB00.out.trans (hb1.mono HB00.out.size)); clear hb1))
  have R2 := Lib.hid ((HB2.out.block _ (hp_lt HB0.out.2)).trans HB0.out.2)
  have HL := Lib.hid (HB0.out.1.trans (HB2.out.mono HB0.out.1.size))
  go_wp2_with ((with_reducible refine wpList_store_row rfl 32 (.tmp 4) (.tmp 20) rfl w.heap.size hz ?_ ?_ 32 hz ?_ ?_ ?_ ?_ ?_); (· rfl); (· rfl); (· exact R2.out); (· exact hz_info); (· rfl); (· exact hz_one))
  refine bodyPost_ret (v := .tuple #[.agg hz, .int .i64 0, .bool false, .bool false]) (res_cell_tmp3 rfl _ _ w.heap.size 32 hz (0, 0) _ _ _ _ rfl rfl rfl rfl (setRow_heap _ _ hz _ _ _ R2.out) Try.underlying32 rfl hz_info) rfl ⟨rfl, below_setRow HL.out (Nat.le_refl _) _⟩
end Go.Proofs.Ythloohoefjmmoaa

namespace Go.Proofs.Ythloohoefjmmoaa
open Go.RowKit Go.Maps

set_option maxRecDepth 100000 in
set_option maxHeartbeats 1000000 in
theorem rusable_dead (p : Value) (i b : Int) (w : World) (h : SDead w p) (hi : i < 2 ^ 63) : Calls Try.prog 13 #[p, .int .i64 i, .int .i64 b] w fun e w' => e = .returned (.tuple #[.agg hz, .int .i64 8]) ∧ Below w.heap.size w w' := by
  have hb0 := (Below.refl w.heap.size w).alloc (Nat.le_refl _) (.cells hz 32)
  have hr0 := heap_alloc_new w (.cells hz 32)
  obtain ⟨w0, ew0⟩ : ∃ w0, w0 = w.alloc (.cells hz 32) := ⟨_, rfl⟩
  rw [← ew0] at hb0 hr0
  have HG := Lib.hid (rget_dead p i w0 (h.below hb0) hi)
  have HB0 := Lib.hid (And.intro hb0 hr0)
  have HW := Lib.hid ew0
  clear h hi hb0 hr0 ew0
  go_enter Try.func13, Try.ntmps13
  go_upto_region 1 with fail
  have hw0 := HW.out
  unfold hz at hw0
  rw [← hw0]
  clear hw0
  go_upto_region 2 with (first
    | (go_at_call 11; refine HG.out.mono ?_; rintro e w1 ⟨rfl, hb1⟩; have HB1 := Lib.hid hb1; clear hb1)
    | ((with_reducible refine wpList_store_row rfl 32 (.tmp 8) (.tmp 16) rfl w1.heap.size hz ?_ ?_ 32 hz ?_ ?_ ?_ ?_ ?_); (· rfl); (· rfl); (· exact heap_alloc_new _ _); (· exact hz_info); (· rfl); (· exact hz_one)))
  have HB2 := Lib.hid (HB1.out.alloc HB1.out.size (.cells hz 32))
  have HB3 := Lib.hid (below_setRow HB2.out HB1.out.size hz)
  have R3 := Lib.hid ((HB3.out.block _ (hp_lt HB0.out.2)).trans HB0.out.2)
  have HL := Lib.hid (HB0.out.1.trans (HB3.out.mono HB0.out.1.size))
  go_wp2_with ((with_reducible refine wpList_store_row rfl 32 (.tmp 6) (.tmp 23) rfl w.heap.size hz ?_ ?_ 32 hz ?_ ?_ ?_ ?_ ?_); (· rfl); (· rfl); (· exact R3.out); (· exact hz_info); (· rfl); (· exact hz_one))
  refine bodyPost_ret (v := .tuple #[.agg hz, .int .i64 8]) (res_cell_tmp rfl _ _ w.heap.size 32 hz (0, 0) _ _ rfl rfl (setRow_heap _ _ hz _ _ _ R3.out) Try.underlying32 rfl hz_info) rfl ⟨rfl, below_setRow HL.out (Nat.le_refl _) _⟩
set_option maxRecDepth 100000 in
set_option maxHeartbeats 1000000 in
theorem rdisable_dead (p : Value) (i b : Int) (w : World) (h : SDead w p) (hi : i < 2 ^ 63) : Calls Try.prog 18 #[p, .int .i64 i, .int .i64 b] w fun e w' => e = .returned (.int .i64 8) ∧ Below w.heap.size w w' := by
  have HG := Lib.hid (rget_dead p i w h hi)
  clear h hi
  go_enter Try.func18, Try.ntmps18
  go_upto_region 2 with (first
    | (go_at_call 11; refine HG.out.mono ?_; rintro e w1 ⟨rfl, hb1⟩; have HB1 := Lib.hid hb1; clear hb1)
    | ((with_reducible refine wpList_store_row rfl 32 (.tmp 7) (.tmp 15) rfl w1.heap.size hz ?_ ?_ 32 hz ?_ ?_ ?_ ?_ ?_); (· rfl); (· rfl); (· exact heap_alloc_new _ _); (· exact hz_info); (· rfl); (· exact hz_one)))
  have HB2 := Lib.hid (HB1.out.alloc HB1.out.size (.cells hz 32))
  have HB3 := Lib.hid (below_setRow HB2.out HB1.out.size hz)
  go_wp2
  go_ret
  exact ⟨rfl, HB3.out⟩
end Go.Proofs.Ythloohoefjmmoaa

namespace Go.Proofs.Ythloohoefjmmoaa
open Go.RowKit Go.Maps

/-- a hash's 32 bytes as a string -/
def hstr (f : Nat → Nat) : ByteArray := strOfNums ((List.range 32).map fun i => ((f i : Nat) : Int))
theorem hstr_list (f : Nat → Nat) : (hstr f).data.toList = (List.range 32).map fun i => UInt8.ofNat (f i) := by
  unfold hstr strOfNums
  simp [List.map_map]
theorem hstr_size (f : Nat → Nat) : (hstr f).size = 32 := by rw [Lib.size_eq, hstr_list]; simp
theorem hstr_cells {f : Nat → Nat} (hf : ∀ i, f i < 256) : Lib.byteCells (hstr f).data.toList = bys f 32 := by
  rw [hstr_list]
  unfold Lib.byteCells bys
  rw [List.map_map]
  refine List.map_congr_left fun i _ => ?_
  show Value.int .u8 (((UInt8.ofNat (f i)).toNat : Nat) : Int) = _
  rw [UInt8.toNat_ofNat', Nat.mod_eq_of_lt (hf i)]
theorem hc_one (f : Nat → Nat) : (hc f).all (·.oneCell') = true := by
  rw [List.all_toArray, List.all_eq_true]
  intro u hu
  exact bys_one f 32 u hu
/-- copy of a hash's string to a whole variable -/
theorem wpList_copy_hash {ops : Array Oper} {rest : List Oper} {o : Oper} {a : Act} {w : World} {Q : Exit → Act → World → Prop} (hgd : o.guard = none) (d s : Operand)
    (ho : o.op = .call { callee := .builtin .copy, args := #[d, s], argTypes := #[73, 9] }) (g dCap : Nat) (f : Nat → Nat) (hf : ∀ i, f i < 256) (hd : a.eval d = .slice (some ⟨g, 0, none⟩) 32 dCap) (hs : a.eval s = .string (hstr f))
    (cur : Array Value) (t : TypeId) (hg : w.heap[g]? = some (.cells cur t (0, 0))) (hcur : cur.size = 32)
    (h : wpList Try.prog ops Q rest (a.put o.dst (goInt 32)) (w.setRow g (hc f))) : wpList Try.prog ops Q (o :: rest) a w := by
  refine wpList_plain hgd fun K hK => ?_
  have hrun := Lib.run_copy_row_string (P := Try.prog) w 73 9 o.type 5 g 0 32 dCap (hstr f) cur t Try.underlying73 (by kernel_rfl) hg (by rw [hstr_size]; exact Nat.le_refl _) (by rw [hstr_size, hcur]; exact Nat.le_refl _)
  have e1 : cur.toList.drop (0 + 32) = [] := List.drop_eq_nil_of_le (by rw [Array.length_toList, hcur]; exact Nat.le_refl _)
  rw [hstr_cells hf, hstr_size, e1, List.take_zero, List.nil_append, List.append_nil] at hrun
  unfold Oper.wp
  simp [execOp, ho, resolve, invoke, builtin, hd, hs, hrun, Result.andThen]
  exact hK _ _ h
theorem exec_load_hrow {P : Program} {o : Oper} {a : Act} {w : World} (ty : TypeId) (x : Operand) (ho : o.op = .load ty x) (g : Nat) (hx : a.eval x = .pointer (some ⟨g, 0, none⟩)) (t : TypeId) (cs : Array Value) (fr : Nat × Nat) (d : TypeDesc) (hg : w.heap[g]? = some (.cells cs t fr))
    (hu : P.underlying ty = some d) (hd : (match d with | .struct _ | .array _ _ => true | _ => false) = true) (hi : (P.info? ty).map (·.size) = some cs.size) : (execOp a.eval o).run P w = .ok (.value (.agg cs)) w := by
  unfold execOp
  simp only [ho, hx, Instr.loadAt, Instr.sureAddr, Sem.run_bind, Sem.run_pure, Result.andThen_ok, run_loadVar_row w g t ty cs fr d hg hu hd hi]
set_option maxRecDepth 100000 in
set_option maxHeartbeats 4000000 in
theorem rget_some {w W : World} {b : Nat} {F : List Nat} {L : SL} {q : Nat} {qs : List Value} (h : SNew w W b F L q qs) (i : Int) (K7 K8 : ByteArray) (hK7 : keyStr 37 (fun _ => i) 1 = K7) (hK8 : keyStr 38 (fun _ => i) 1 = K8) (hi : i < 2 ^ 63) (hk7 : K7.size ≤ maxLen) (hk8 : K8.size ≤ maxLen)
    (r0 r1 : Int) (h0 : 0 ≤ r0 ∧ r0 < 2 ^ 63) (h1 : 0 ≤ r1 ∧ r1 < 2 ^ 63) (f : Nat → Nat) (hf : ∀ i, f i < 256) (he7 : sget L K7 = some (rowV (two2 r0 r1) 2)) (he8 : sget L K8 = some (hstr f)) :
    Calls Try.prog 11 #[.pointer (some ⟨b, 0, none⟩), .int .i64 i] W fun e W' => e = .returned (.tuple #[.agg (hc f), .int .i64 r1, .bool (decide (r0 = 1)), .bool true]) ∧ Below W.heap.size W W' := by
  have hb0 := (Below.refl W.heap.size W).alloc (Nat.le_refl _) (.cells hz 32)
  have hr0 := heap_alloc_new W (.cells hz 32)
  obtain ⟨w0, ew0⟩ : ∃ w0, w0 = W.alloc (.cells hz 32) := ⟨_, rfl⟩
  rw [← ew0] at hb0 hr0
  have hb00 := (Below.refl w0.heap.size w0).alloc (Nat.le_refl _) (.cells #[.int .i64 i] 3)
  have HK := Lib.hid (key_is 37 (some ⟨w0.heap.size, 0, none⟩) 1 1 (fun _ => i) K7 hK7 _ (il1 i w0 3 hi) (by omega))
  have HKB := Lib.hid (fun (w1 : World) => key_is 38 (some ⟨w1.heap.size, 0, none⟩) 1 1 (fun _ => i) K8 hK8 _ (il1 i w1 3 hi) (by omega))
  have HRw := Lib.hid (fun (w1 : World) (hb : Below W.heap.size W w1) => crow_some (h.below hb) K7 (two2 r0 r1) 2 (by omega) (by omega) (fun j hj => by rcases (by omega : j = 0 ∨ j = 1) with rfl | rfl; exact h0; exact h1) hk7 he7)
  have HG := Lib.hid (fun (w1 : World) (hb : Below W.heap.size W w1) => (h.below hb).get_some K8 (hstr f) hk8 he8)
  have HB0 := Lib.hid (And.intro hb0 hr0)
  have HB00 := Lib.hid hb00
  have HW := Lib.hid ew0
  have HF := Lib.hid hf
  clear h hi hb0 hr0 ew0 hK7 hK8 hk7 hk8 h0 h1 hf he7 he8 hb00
  obtain ⟨hs, ehs⟩ : ∃ z, z = hstr f := ⟨_, rfl⟩
  rw [← ehs] at HG
  have HS := Lib.hid ehs
  clear ehs
  go_enter Try.func11, Try.ntmps11
  go_upto_region 1 with fail
  have hw0 := HW.out
  unfold hz at hw0
  rw [← hw0]
  clear hw0
  go_upto_region 4 with (first
    | (go_at_call 25; refine (HRw.out w1 (HB0.out.1.trans (HB1.out.mono HB0.out.1.size))).mono ?_; rintro e w2 ⟨⟨g, rfl, hcc, hgl⟩, hb2⟩; have HC := Lib.hid (And.intro (hcc 0 (by omega)) (And.intro (hcc 1 (by omega)) hgl)); have HB2 := Lib.hid (HB1.out.trans (hb2.mono HB1.out.size)); clear hb2 hcc hgl)
    | (go_at_call 26; refine HK.out.mono ?_; rintro e w1 ⟨rfl, hb1⟩; have HB1 := Lib.hid (HB00.out.trans (hb1.mono HB00.out.size)); clear hb1))
  have hbA := (Below.refl w2.heap.size w2).alloc (Nat.le_refl _) (.cells hz 32)
  have hrA := heap_alloc_new w2 (.cells hz 32)
  obtain ⟨wA, ewA⟩ : ∃ wA, wA = w2.alloc (.cells hz 32) := ⟨_, rfl⟩
  rw [← ewA] at hbA hrA
  have HA := Lib.hid (And.intro hbA hrA)
  have HAB := Lib.hid ((Below.refl wA.heap.size wA).alloc (Nat.le_refl _) (.cells #[.int .i64 i] 3))
  have HWA := Lib.hid ewA
  clear hbA hrA ewA
  go_upto_region 5 with fail
  have hw0 := HWA.out
  unfold hz at hw0
  rw [← hw0]
  clear hw0
  go_upto_region 6 with (first
    | (go_at_call 27; refine (HG.out w3 (HB0.out.1.trans ((HB2.out.trans ((HA.out.1.trans (HB3.out.mono HA.out.1.size)).mono HB2.out.size)).mono HB0.out.1.size))).mono ?_; rintro e w4 ⟨rfl, _, hb4⟩; have HB4 := Lib.hid (HB3.out.trans (hb4.mono HB3.out.size)); clear hb4)
    | (go_at_call 26; refine (HKB.out wA).mono ?_; rintro e w3 ⟨rfl, hb3⟩; have HB3 := Lib.hid (HAB.out.trans (hb3.mono HAB.out.size)); clear hb3))
  have R4 := Lib.hid ((HB4.out.block _ (hp_lt HA.out.2)).trans HA.out.2)
  have HI := Lib.hid (show (Try.prog.info? 32).map (·.size) = some (hc f).size by rw [hc_size]; exact hi_info)
  have HSz := Lib.hid (show hz.size = (hc f).size by rw [hc_size]; rfl)
  have HOne := Lib.hid (hc_one f)
  have ewv := HS.out
  go_upto_region 7 with ((with_reducible refine wpList_copy_hash rfl (.tmp 29) (.tmp 30) rfl w2.heap.size 32 f HF.out ?_ ?_ hz 32 R4.out rfl ?_); (· rfl); (· exact congrArg Value.string HS.out))
  obtain ⟨cz, hcz⟩ : ∃ cz, cz = hc f := ⟨_, rfl⟩
  rw [← hcz] at HI HSz HOne ⊢
  have HCZ := Lib.hid hcz
  have R5 := Lib.hid (setRow_heap w4 w2.heap.size hz cz 32 (0, 0) R4.out)
  have L5 := Lib.hid (show Below w2.heap.size w2 (w4.setRow w2.heap.size cz) from below_setRow (HA.out.1.trans (HB4.out.mono HA.out.1.size)) (Nat.le_refl _) cz)
  obtain ⟨W5, eW5⟩ : ∃ z, z = w4.setRow w2.heap.size cz := ⟨_, rfl⟩
  rw [← eW5] at R5 L5 ⊢
  clear eW5 hcz ewv
  have d0 := (L5.out.cell (p := ⟨g, 0, none⟩) HC.out.2.2).trans HC.out.1
  have d1 := (L5.out.cell (p := ⟨g, 1, none⟩) HC.out.2.2).trans HC.out.2.1
  have hg4 : W.heap.size < w2.heap.size := Nat.lt_of_lt_of_le (hp_lt HB0.out.2) HB2.out.size
  have RG := Lib.hid ((L5.out.block _ hg4).trans ((HB2.out.block _ (hp_lt HB0.out.2)).trans HB0.out.2))
  have LW := Lib.hid (HB0.out.1.trans ((HB2.out.trans (L5.out.mono HB2.out.size)).mono HB0.out.1.size))
  have HS0 := Lib.hid (show Below W.heap.size W W5.drew ∧ W5.drew.heap[w2.heap.size]? = some (.cells cz 32 (0, 0)) ∧ W5.drew.cell? ⟨g, 0, none⟩ = some (.int .i64 r0) ∧ W5.drew.cell? ⟨g, 1, none⟩ = some (.int .i64 r1) ∧ W5.drew.heap[W.heap.size]? = some (.cells hz 32 (0, 0)) from ⟨LW.out.drew, R5.out, d0, d1, RG.out⟩)
  have HNE := Lib.hid hg4
  have HGL := Lib.hid HC.out.2.2
  have HGN := Lib.hid (show g ≠ W.heap.size from fun e => by
    have r := (HB2.out.block _ (hp_lt HB0.out.2)).trans HB0.out.2
    have c : w2.cell? ⟨W.heap.size, 0, none⟩ = some (.int .u8 0) := (hp_cell (i := 0) r).trans rfl
    have c2 := HC.out.1
    rw [e, c] at c2
    cases c2)
  have HG0 := Lib.hid (fun (Z : World) (hZ : Z.cell? ⟨g, 0, none⟩ = some (.int .i64 r0)) (hn : g ≠ W.heap.size) => (cell_setRow_other Z W.heap.size cz ⟨g, 0, none⟩ hn).trans hZ)
  have HG1 := Lib.hid (fun (Z : World) (hZ : Z.cell? ⟨g, 1, none⟩ = some (.int .i64 r1)) (hn : g ≠ W.heap.size) => (cell_setRow_other Z W.heap.size cz ⟨g, 1, none⟩ hn).trans hZ)
  obtain ⟨G9, eG9⟩ : ∃ z, z = w2.heap.size := ⟨_, rfl⟩
  rw [← eG9] at HS0 HNE ⊢
  clear d0 d1 hg4 eG9
  refine wp_region_held_drew (S := fun w' => Below W.heap.size W w' ∧ w'.heap[G9]? = some (.cells cz 32 (0, 0)) ∧ w'.cell? ⟨g, 0, none⟩ = some (.int .i64 r0) ∧ w'.cell? ⟨g, 1, none⟩ = some (.int .i64 r1)) (by kernel_rfl) ?_ (fun hHeld => ?_)
  · exact ⟨HS0.out.1, HS0.out.2.1, HS0.out.2.2.1, HS0.out.2.2.2.1⟩
  generalize W5.drew = Z0 at HS0 hHeld ⊢
  refine wpAnyH_take (i := 0) (v := .agg cz) rfl (by kernel_rfl) (by kernel_rfl) (by kernel_rfl) (fun _ _ _ h => h) (Or.inl ⟨by kernel_rfl, ?_⟩) (by with_reducible assumption) ?_
  · intro wz hSw
    (try dsimp only at hSw)
    exact exec_load_hrow 32 (.tmp 9) rfl G9 rfl 32 cz (0, 0) _ hSw.2.1 Try.underlying32 rfl HI.out
  show wpAnyH _ _ _ _ _ _ _ (Act.put _ (some 32) _) _
  (try simp only [Act.put, List.setIfInBounds_toArray, List.set_cons_zero, List.set_cons_succ])
  refine wpAnyH_take (i := 1) (v := ?_) rfl (by kernel_rfl) (by kernel_rfl) (by kernel_rfl) (fun _ _ _ h => h) (Or.inl ⟨by kernel_rfl, ?_⟩) (by with_reducible assumption) ?_
  rotate_left
  · intro wz hSw
    (try dsimp only at hSw)
    go_simp
    (try with_reducible rfl)
  show wpAnyH _ _ _ _ _ _ _ (Act.put _ (some 33) _) _
  (try simp only [Act.put, List.setIfInBounds_toArray, List.set_cons_zero, List.set_cons_succ])
  refine wpAnyH_take (i := 2) (v := ?_) rfl (by kernel_rfl) (by kernel_rfl) (by kernel_rfl) (fun _ _ _ h => h) (Or.inl ⟨by kernel_rfl, ?_⟩) (by with_reducible assumption) ?_
  rotate_left
  · intro wz hSw
    (try dsimp only at hSw)
    go_simp
    (try with_reducible rfl)
  show wpAnyH _ _ _ _ _ _ _ (Act.put _ (some 34) _) _
  (try simp only [Act.put, List.setIfInBounds_toArray, List.set_cons_zero, List.set_cons_succ])
  refine wpAnyH_take (i := 3) (v := .int .i64 r1) rfl (by kernel_rfl) (by kernel_rfl) (by kernel_rfl) (fun _ _ _ h => h) (Or.inl ⟨by kernel_rfl, ?_⟩) (by with_reducible assumption) ?_
  · intro wz hSw
    (try dsimp only at hSw)
    have y0 := hSw.2.2.2
    go_simp
    (try with_reducible rfl)
  show wpAnyH _ _ _ _ _ _ _ (Act.put _ (some 35) _) _
  (try simp only [Act.put, List.setIfInBounds_toArray, List.set_cons_zero, List.set_cons_succ])
  refine wpAnyH_take (i := 4) (v := ?_) rfl (by kernel_rfl) (by kernel_rfl) (by kernel_rfl) (fun _ _ _ h => h) (Or.inl ⟨by kernel_rfl, ?_⟩) (by with_reducible assumption) ?_
  rotate_left
  · intro wz hSw
    (try dsimp only at hSw)
    go_simp
    (try with_reducible rfl)
  show wpAnyH _ _ _ _ _ _ _ (Act.put _ (some 36) _) _
  (try simp only [Act.put, List.setIfInBounds_toArray, List.set_cons_zero, List.set_cons_succ])
  refine wpAnyH_take (i := 5) (v := ?_) rfl (by kernel_rfl) (by kernel_rfl) (by kernel_rfl) (fun _ _ _ h => h) (Or.inl ⟨by kernel_rfl, ?_⟩) (by with_reducible assumption) ?_
  rotate_left
  · intro wz hSw
    (try dsimp only at hSw)
    go_simp
    (try with_reducible rfl)
  show wpAnyH _ _ _ _ _ _ _ (Act.put _ (some 37) _) _
  (try simp only [Act.put, List.setIfInBounds_toArray, List.set_cons_zero, List.set_cons_succ])
  refine wpAnyH_take (i := 6) (v := .int .i64 r0) rfl (by kernel_rfl) (by kernel_rfl) (by kernel_rfl) (fun _ _ _ h => h) (Or.inl ⟨by kernel_rfl, ?_⟩) (by with_reducible assumption) ?_
  · intro wz hSw
    (try dsimp only at hSw)
    have y0 := hSw.2.2.1
    go_simp
    (try with_reducible rfl)
  show wpAnyH _ _ _ _ _ _ _ (Act.put _ (some 38) _) _
  (try simp only [Act.put, List.setIfInBounds_toArray, List.set_cons_zero, List.set_cons_succ])
  refine wpAnyH_take (i := 7) (v := ?_) rfl (by kernel_rfl) (by kernel_rfl) (by kernel_rfl) (fun _ _ _ h => h) (Or.inl ⟨by kernel_rfl, ?_⟩) (by with_reducible assumption) ?_
  rotate_left
  · intro wz hSw
    (try dsimp only at hSw)
    go_simp
    (try with_reducible rfl)
  show wpAnyH _ _ _ _ _ _ _ (Act.put _ (some 39) _) _
  (try simp only [Act.put, List.setIfInBounds_toArray, List.set_cons_zero, List.set_cons_succ])
  refine wpAnyH_ready (rs := [8]) (by kernel_rfl) (by simp) ?_
  refine AllReadyH.cons rfl (fun K hK => ?_) AllReadyH.nil
  clear hHeld
  refine wp_store_row 32 (.tmp 4) (.tmp 32) rfl W.heap.size cz rfl rfl 32 hz HS0.out.2.2.2.2 HI.out HSz.out HOne.out ?_
  have HFin := Lib.hid (show Below W.heap.size W (Z0.setRow W.heap.size cz) from below_setRow HS0.out.1 (Nat.le_refl _) cz)
  refine hK.out _ _ ?_ (fun hHeld => ?_)
  · exact ⟨HFin.out, (setRow_other _ _ _ _ (Ne.symm (Nat.ne_of_lt HNE.out))).trans HS0.out.2.1, HG0.out _ HS0.out.2.2.1 HGN.out, HG1.out _ HS0.out.2.2.2.1 HGN.out⟩
  clear hK K
  (try simp only [Act.put, List.setIfInBounds_toArray, List.set_cons_zero, List.set_cons_succ])
  refine wpAnyH_take (i := 9) (v := ?_) rfl (by kernel_rfl) (by kernel_rfl) (by kernel_rfl) (fun _ _ _ h => h) (Or.inl ⟨by kernel_rfl, ?_⟩) (by with_reducible assumption) ?_
  rotate_left
  · intro wz hSw
    (try dsimp only at hSw)
    go_simp
    (try with_reducible rfl)
  show wpAnyH _ _ _ _ _ _ _ (Act.put _ (some 5) _) _
  (try simp only [Act.put, List.setIfInBounds_toArray, List.set_cons_zero, List.set_cons_succ])
  refine wpAnyH_take (i := 10) (v := ?_) rfl (by kernel_rfl) (by kernel_rfl) (by kernel_rfl) (fun _ _ _ h => h) (Or.inl ⟨by kernel_rfl, ?_⟩) (by with_reducible assumption) ?_
  rotate_left
  · intro wz hSw
    (try dsimp only at hSw)
    go_simp
    (try with_reducible rfl)
  show wpAnyH _ _ _ _ _ _ _ (Act.put _ (some 6) _) _
  (try simp only [Act.put, List.setIfInBounds_toArray, List.set_cons_zero, List.set_cons_succ])
  refine wpAnyH_take (i := 11) (v := ?_) rfl (by kernel_rfl) (by kernel_rfl) (by kernel_rfl) (fun _ _ _ h => h) (Or.inl ⟨by kernel_rfl, ?_⟩) (by with_reducible assumption) ?_
  rotate_left
  · intro wz hSw
    (try dsimp only at hSw)
    go_simp
    (try with_reducible rfl)
  show wpAnyH _ _ _ _ _ _ _ (Act.put _ (some 7) _) _
  (try simp only [Act.put, List.setIfInBounds_toArray, List.set_cons_zero, List.set_cons_succ])
  refine wpAnyH_done (by kernel_rfl) ?_ _
  go_wp2_with fail
  refine bodyPost_ret (v := .tuple #[.agg cz, .int .i64 r1, .bool (decide (r0 = 1)), .bool true]) (res_cell_tmp3 rfl _ _ W.heap.size 32 cz (0, 0) _ _ _ _ rfl rfl rfl rfl (setRow_heap _ _ hz _ _ _ HS0.out.2.2.2.2) Try.underlying32 rfl HI.out) rfl ⟨by rw [HCZ.out], HFin.out⟩
end Go.Proofs.Ythloohoefjmmoaa
