/- cell.put and cell.SetInt of anything, on a live store. -/
import Derived.Test.YtoaepgiajooecaaGreatG10
import Derived.Shelf.Strings.Builder1
namespace Go.Proofs.YtoaepgiajooecaaGreat
open Go.RowKit Go.Maps

/-- what put leaves: an empty value is not there -/
def putV (L : SL) (k v : ByteArray) : SL := if v = ⟨#[]⟩ then sdel L k else setL L k v
set_option maxRecDepth 100000 in
set_option maxHeartbeats 1000000 in
theorem cput_del {w W : World} {b : Nat} {F : List Nat} {L : SL} {q : Nat} {qs : List Value} (h : SNew w W b F L q qs) (k : ByteArray) (hk : k.size ≤ maxLen) (hN : L.length ≤ 1000000) (hq : q < 1000000) :
    Calls Tryz.prog 64 #[.pointer (some ⟨b, 0, none⟩), .string k, .string ⟨#[]⟩] W fun e W' => e = .returned (.tuple #[]) ∧ LiveTo w W W' b F (sdel L k) (q + 1) := by
  have HS := Lib.hid (h.del k hk hN hq)
  clear h hk hN hq
  go_enter Tryz.func64, Tryz.ntmps64
  go_wp2_with (go_at_call 87; refine HS.out.mono ?_; rintro e w1 ⟨rfl, h1⟩; have H1 := Lib.hid h1; clear h1)
  refine bodyPost_ret (v := .tuple #[]) (by simp [results, Tryz.results64, go_sem]) rfl ⟨rfl, H1.out⟩
theorem cput_any {w W : World} {b : Nat} {F : List Nat} {L : SL} {q : Nat} {qs : List Value} (h : SNew w W b F L q qs) (k v : ByteArray) (hk : k.size ≤ maxLen) (hv : v.size ≤ maxLen) (hk0 : k ≠ ⟨#[]⟩) (hN : L.length < 1000000) (hq : q < 1000000) :
    Calls Tryz.prog 64 #[.pointer (some ⟨b, 0, none⟩), .string k, .string v] W fun e W' => e = .returned (.tuple #[]) ∧ LiveTo w W W' b F (putV L k v) (q + 1) := by
  unfold putV
  by_cases hv0 : v = ⟨#[]⟩
  · rw [if_pos hv0, hv0]
    exact cput_del h k hk (by omega) hq
  · rw [if_neg hv0]
    exact cput_set h k v hk hv hk0 hv0 hN hq
set_option maxRecDepth 100000 in
set_option maxHeartbeats 1000000 in
theorem csetInt_del {w W : World} {b : Nat} {F : List Nat} {L : SL} {q : Nat} {qs : List Value} (h : SNew w W b F L q qs) (k : ByteArray) (n : Int) (hk : k.size ≤ maxLen) (h1 : n < 1) (hN : L.length ≤ 1000000) (hq : q < 1000000) :
    Calls Tryz.prog 38 #[.pointer (some ⟨b, 0, none⟩), .string k, .int .i64 n] W fun e W' => e = .returned (.tuple #[]) ∧ LiveTo w W W' b F (sdel L k) (q + 1) := by
  have HS := Lib.hid (cput_del h k hk hN hq)
  clear h hk hN hq
  go_enter Tryz.func38, Tryz.ntmps38
  go_wp2_with (go_at_call 64; refine HS.out.mono ?_; rintro e w2 ⟨rfl, h1⟩; have H1 := Lib.hid h1; clear h1)
  refine bodyPost_ret (v := .tuple #[]) (by simp [results, Tryz.results38, go_sem]) rfl ⟨rfl, H1.out⟩
theorem csetInt_any {w W : World} {b : Nat} {F : List Nat} {L : SL} {q : Nat} {qs : List Value} (h : SNew w W b F L q qs) (k : ByteArray) (n : Int) (hk : k.size ≤ maxLen) (hk0 : k ≠ ⟨#[]⟩) (h2 : n < 2 ^ 63) (hN : L.length < 1000000) (hq : q < 1000000) :
    Calls Tryz.prog 38 #[.pointer (some ⟨b, 0, none⟩), .string k, .int .i64 n] W fun e W' => e = .returned (.tuple #[]) ∧ LiveTo w W W' b F (if n < 1 then sdel L k else setL L k (numStr n)) (q + 1) := by
  by_cases h1 : n < 1
  · rw [if_pos h1]
    exact csetInt_del h k n hk h1 (by omega) hq
  · rw [if_neg h1]
    exact csetInt_set h k n hk hk0 (by omega) h2 hN hq
end Go.Proofs.YtoaepgiajooecaaGreat

namespace Go.Proofs.YtoaepgiajooecaaGreat
open Go.RowKit Go.Maps

/-- the number at a key -/
def intAt (L : SL) (k : ByteArray) (n : Nat) : Prop := (n = 0 ∧ sget L k = none) ∨ sget L k = some (numStr n)
set_option maxRecDepth 100000 in
set_option maxHeartbeats 1000000 in
theorem cint_at {w W : World} {b : Nat} {F : List Nat} {L : SL} {q : Nat} {qs : List Value} (h : SNew w W b F L q qs) (k : ByteArray) (n : Nat) (hk : k.size ≤ maxLen) (he : intAt L k n) (hn : n < 2 ^ 63) :
    Calls Tryz.prog 63 #[.pointer (some ⟨b, 0, none⟩), .string k] W fun e W' => e = .returned (.int .i64 (n : Nat)) ∧ Below W.heap.size W W' := by
  rcases he with ⟨rfl, he⟩ | he
  · exact cint_none h k hk he
  · exact cint_some h k n hk he hn
end Go.Proofs.YtoaepgiajooecaaGreat

namespace Go.Proofs.YtoaepgiajooecaaGreat
open Go.RowKit Go.Maps

theorem bldSize : (Tryz.prog.info? 141).map (·.size) = some 2 := by kernel_rfl
theorem bldLies : liesAt Tryz.prog Tryz.prog.depth 141 (2 / Tryz.prog.cellsOf 141) 0 141 1 = true := by kernel_rfl
theorem bldByte : (Tryz.prog.info? 5).map (fun i => (i.zero, i.size, i.bytes)) = some (some (.int .u8 0), 1, 1) := by kernel_rfl
/-- the builder b holds the bytes bs -/
abbrev Bld (B b : Nat) (bs : List Value) (w : World) : Prop := Lib.IsBuilder 141 5 B b bs w
set_option maxHeartbeats 1000000 in
set_option maxRecDepth 100000 in
theorem bld_used (b : Nat) (w : World) (h0 : w.cell? ⟨b, 0, none⟩ = some (.pointer (some ⟨b, 0, none⟩))) :
    Calls Tryz.prog 106 #[.pointer (some ⟨b, 0, none⟩)] w fun e w' => e = .returned (.tuple #[]) ∧ w' = w := by
  obtain ⟨j, hj, _⟩ := Option.map_eq_some_iff.1 bldSize
  go_enter Tryz.func106, Tryz.ntmps106
  go_wp2
  rw [Lib.run_neq_ptr_same w _ Tryz.underlying139 hj]
  go_wp2
  go_end0
  exact ⟨rfl, rfl⟩
set_option maxHeartbeats 1000000 in
set_option maxRecDepth 100000 in
theorem bld_fresh (b : Nat) (w : World) (h0 : w.cell? ⟨b, 0, none⟩ = some (.pointer none)) (hsh : w.shape? b = some (141, 2)) (hfz : w.frozen? ⟨b, 0, none⟩ = false) :
    Calls Tryz.prog 106 #[.pointer (some ⟨b, 0, none⟩)] w fun e w' => e = .returned (.tuple #[]) ∧ w' = w.setCell ⟨b, 0, none⟩ (.pointer (some ⟨b, 0, none⟩)) := by
  obtain ⟨j, hj, hjs⟩ := Option.map_eq_some_iff.1 bldSize
  go_enter Tryz.func106, Tryz.ntmps106
  go_wp2
  rw [Lib.run_to_unsafe w ⟨b, 0, none⟩ Tryz.underlying139 Tryz.underlying162 hj (by rw [hjs]; decide) hsh (Nat.zero_lt_succ 1)]
  simp only [Result.andThen]
  rw [Oper.upon_value]
  go_wp2
  rw [run_callFunc_extern Tryz.func112 (by kernel_rfl) (by kernel_rfl) (by kernel_rfl) (e := Extern.AbiNoEscape.same) (by kernel_rfl)]
  rw [Lib.run_noEscape]
  simp only [Result.andThen]
  rw [Oper.upon_value]
  go_wp2
  rw [Lib.run_from_unsafe w ⟨b, 0, none⟩ Tryz.underlying162 Tryz.underlying139 hj hsh bldLies]
  simp only [Result.andThen]
  rw [Oper.upon_value]
  go_wp2
  go_end0
  exact ⟨rfl, rfl⟩
theorem bld_check (B b : Nat) (bs : List Value) (w : World) (h : Bld B b bs w) :
    Calls Tryz.prog 106 #[.pointer (some ⟨b, 0, none⟩)] w fun e w' => e = .returned (.tuple #[]) ∧ (Lib.BuilderAt 141 5 B b (.pointer (some ⟨b, 0, none⟩)) bs w' ∧ Below B w w') := by
  rcases h with h | h
  · refine (bld_fresh b w h.cell0 h.shape h.frozen0).mono ?_
    rintro e w' ⟨rfl, rfl⟩
    exact ⟨rfl, h.used _, (Below.refl B w).setCell (p := ⟨b, 0, none⟩) h.1 _⟩
  · refine (bld_used b w h.cell0).mono ?_
    rintro e w' ⟨rfl, rfl⟩
    exact ⟨rfl, h, Below.refl B _⟩
set_option maxHeartbeats 1000000 in
set_option maxRecDepth 100000 in
theorem bld_write (B b : Nat) (bs : List Value) (s : ByteArray) (w : World) (h : Bld B b bs w) (hlen : bs.length + s.size ≤ 140737488355328) (hBw : B ≤ w.heap.size) :
    Calls Tryz.prog 90 #[.pointer (some ⟨b, 0, none⟩), .string s] w fun e w' => e = .returned (.tuple #[.int .i64 s.size, .nilIface]) ∧ Bld B b (bs ++ Lib.strCells s) w' ∧ Below B w w' := by
  obtain ⟨i0, hi, hz0, hz1, hz2⟩ := info_parts bldByte
  have HC := Lib.hid (bld_check B b bs w h)
  go_enter Tryz.func90, Tryz.ntmps90
  go_wp2_with (go_at_call 106; refine HC.out.mono ?_)
  rintro e w1 ⟨rfl, h1, hb1⟩
  obtain ⟨hB, v, hbk, hown, hne⟩ := h1
  have c0 : w1.cell? ⟨b, 0, none⟩ = some (.pointer (some ⟨b, 0, none⟩)) := by rw [Lib.cell_of_heap hbk]; rfl
  have c1 : w1.cell? ⟨b, 1, none⟩ = some v := by rw [Lib.cell_of_heap hbk]; rfl
  go_wp2_with (at_builtin; refine Lib.wpList_append_own_string _ rfl _ _ 112 9 rfl B 5 i0 Tryz.underlying112 Tryz.underlying9 hi hz0 hz1 hz2 _ _ _ rfl hown s rfl ?c3 ?c4 ?c5 ?_)
  case c3 => unfold maxLen; omega
  case c4 => omega
  case c5 => have := hb1.size; omega
  intro v' w2 hown' hgrow _
  have hlt : b < w1.heap.size := hp_lt hbk
  have hb2 : w2.heap[b]? = some (.cells #[.pointer (some ⟨b, 0, none⟩), v] 141 (0, 0)) := by
    rw [hgrow.block b hlt (fun e => hne e.symm)]
    exact hbk
  have d0 : w2.cell? ⟨b, 0, none⟩ = some (.pointer (some ⟨b, 0, none⟩)) := by rw [Lib.cell_of_heap hb2]; rfl
  have d1 : w2.cell? ⟨b, 1, none⟩ = some v := by rw [Lib.cell_of_heap hb2]; rfl
  have f1 : w2.frozen? ⟨b, 1, none⟩ = false := Lib.frozen_of_heap hb2 1
  obtain ⟨ao, n', cap, rfl⟩ : ∃ ao n' cap, v' = .slice ao n' cap := by
    rcases hown'.2 with ⟨hv, _⟩ | ⟨g, cap, cur, hv, _⟩
    · exact ⟨_, _, _, hv⟩
    · exact ⟨_, _, _, hv⟩
  go_wp2
  go_ret2
  refine ⟨rfl, .inr ?_, ?_⟩
  · exact Lib.BuilderAt.put hB hb2 (bs' := bs ++ Lib.strCells s) (by simpa [Lib.strCells_length] using hown') (by decide)
  · exact (hb1.grown hgrow (by have := hb1.size; omega) (fun k hk => (hown.lt k hk).1)).setCell (p := ⟨b, 1, none⟩) hB _
end Go.Proofs.YtoaepgiajooecaaGreat
