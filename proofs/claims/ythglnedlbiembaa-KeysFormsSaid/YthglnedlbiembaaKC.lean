/- keys.Parse, Table, tallageref09.Parse, ToAmount, at any text. -/
import Derived.Test.YthglnedlbiembaaKA
import Derived.Test.YthglnedlbiembaaF4
namespace Go.Proofs.Ythglnedlbiembaa
open Go.RowKit Go.Sort

theorem Il.nil (w : World) (f : Nat → Int) (h : ∀ i, f i < 2 ^ 63) : Il w none 0 f := ⟨h, fun h => absurd h (by omega)⟩
theorem nums_ok_of {f : FuncId} {v : ByteArray} {w : World} (hok : okN v) (h : Calls Try.prog f #[.string v] w (NumsAny v w)) :
    Calls Try.prog f #[.string v] w fun e w' => (∃ A c, e = .returned (.tuple #[.slice A (v.size / 8) c, .bool true]) ∧ Il w' A (v.size / 8) (chv v)) ∧ Below w.heap.size w w' :=
  h.mono fun e w' ⟨h1, hw⟩ => ⟨by rcases h1 with ⟨_, h2⟩ | ⟨hno, _⟩; exact h2; exact absurd hok hno, hw⟩
theorem nums_no_of {f : FuncId} {v : ByteArray} {w : World} (hok : ¬ okN v) (h : Calls Try.prog f #[.string v] w (NumsAny v w)) :
    Calls Try.prog f #[.string v] w fun e w' => e = .returned (.tuple #[.slice none 0 0, .bool false]) ∧ Below w.heap.size w w' :=
  h.mono fun e w' ⟨h1, hw⟩ => ⟨by rcases h1 with ⟨hy, _⟩ | ⟨_, h2⟩; exact absurd hy hok; exact h2, hw⟩
/-- a text that is a key -/
def okP (s : ByteArray) : Prop := 0 < s.size ∧ sb s 0 ≠ 0 ∧ okN (s.extract 1 s.size)
noncomputable instance (s : ByteArray) : Decidable (okP s) := Classical.propDecidable _
noncomputable instance (s : ByteArray) : Decidable (okN s) := Classical.propDecidable _
noncomputable def pT (s : ByteArray) : Nat := if okP s then sb s 0 else 0
noncomputable def pN (s : ByteArray) : Nat := if okP s then (s.extract 1 s.size).size / 8 else 0
noncomputable def nN (s : ByteArray) : Nat := if okN s then s.size / 8 else 0
def PAny (s : ByteArray) (w : World) (e : Ending) (w' : World) : Prop :=
  (∃ A c, e = .returned (.tuple #[.int .i64 (pT s : Nat), .slice A (pN s) c, .bool (decide (okP s))]) ∧ Il w' A (pN s) (chv (s.extract 1 s.size))) ∧ Below w.heap.size w w'
theorem pany_no {s : ByteArray} {w w' : World} {e : Ending} (h : ¬ okP s) (he : e = .returned (.tuple #[.int .i64 0, .slice none 0 0, .bool false])) (hw : Below w.heap.size w w') : PAny s w e w' := by
  unfold PAny pT pN
  rw [if_neg h, if_neg h, decide_eq_false h]
  exact ⟨⟨none, 0, he, Il.nil _ _ (chv_lt _)⟩, hw⟩
theorem pany_yes {s : ByteArray} {w w' : World} {e : Ending} (h : okP s) (A : Option Addr) (c : Nat) (he : e = .returned (.tuple #[.int .i64 (sb s 0 : Nat), .slice A ((s.extract 1 s.size).size / 8) c, .bool true])) (il : Il w' A ((s.extract 1 s.size).size / 8) (chv (s.extract 1 s.size))) (hw : Below w.heap.size w w') : PAny s w e w' := by
  unfold PAny pT pN
  rw [if_pos h, if_pos h, decide_eq_true h]
  exact ⟨⟨A, c, he, il⟩, hw⟩
theorem nums_c {f : FuncId} {v : ByteArray} {w : World} (h : Calls Try.prog f #[.string v] w (NumsAny v w)) :
    Calls Try.prog f #[.string v] w fun e w' => (∃ A c, e = .returned (.tuple #[.slice A (nN v) c, .bool (decide (okN v))]) ∧ Il w' A (nN v) (chv v)) ∧ Below w.heap.size w w' := by
  refine h.mono fun e w' ⟨h1, hw⟩ => ⟨?_, hw⟩
  unfold nN
  rcases h1 with ⟨hy, A, c, he, il⟩ | ⟨hno, he⟩
  · rw [if_pos hy, decide_eq_true hy]; exact ⟨A, c, he, il⟩
  · rw [if_neg hno, decide_eq_false hno]; exact ⟨none, 0, he, Il.nil _ _ (chv_lt _)⟩
set_option maxRecDepth 100000 in
set_option maxHeartbeats 1000000 in
theorem parseAny_walk (s : ByteArray) (w : World) (hs : s.size ≤ 800) : Calls Try.prog 81 #[.string s] w (PAny s w) := by
  by_cases h0 : s.size = 0
  · have e0 : s.toList.isEmpty = true := by
      rw [ByteArray.toList_eq, List.isEmpty_iff]
      exact List.eq_nil_of_length_eq_zero h0
    have e1 : ((s.size : Int) == 0) = true := by rw [beq_iff_eq]; omega
    have hno := Lib.hid (show ¬ okP s from fun h => by have := h.1; omega)
    have Il0 := Lib.hid (Il.nil w (chv (s.extract 1 s.size)) (chv_lt _))
    clear h0
    go_enter Try.func81, Try.ntmps81
    go_wp2
    refine bodyPost_ret (v := .tuple #[.int .i64 0, .slice none 0 0, .bool false]) (by simp [results, Try.results81, go_sem]) rfl (pany_no hno.out rfl (Below.refl _ _))
  · have e0 : s.toList.isEmpty = false := by
      rw [ByteArray.toList_eq, List.isEmpty_eq_false_iff]
      intro e
      exact h0 (congrArg List.length e)
    have e1 : ((s.size : Int) == 0) = false := by rw [beq_eq_false_iff_ne]; omega
    have hp : 0 < s.size := by omega
    obtain ⟨t, ht⟩ : ∃ t, t = (s[0]'hp).toNat := ⟨_, rfl⟩
    have ht' := ht.symm
    have htb : t < 256 := by rw [ht]; exact UInt8.toNat_lt _
    have htsb : sb s 0 = t := by unfold sb; rw [dif_pos (show 0 < s.data.size from hp)]; exact ht'
    clear ht
    by_cases ht0 : t = 0
    · have b1 : ((t : Int) == 0) = true := by rw [beq_iff_eq]; omega
      have hno := Lib.hid (show ¬ okP s from fun h => h.2.1 (by rw [htsb]; exact ht0))
      clear ht0 h0
      go_enter Try.func81, Try.ntmps81
      go_wp2
      refine bodyPost_ret (v := .tuple #[.int .i64 0, .slice none 0 0, .bool false]) (by simp [results, Try.results81, go_sem]) rfl (pany_no hno.out rfl (Below.refl _ _))
    · have b1 : ((t : Int) == 0) = false := by rw [beq_eq_false_iff_ne]; omega
      have b2 : IntKind.i64.wrap (t : Int) = (t : Int) := IntWalk.i64_in _ (by omega)
      have HN := Lib.hid (fun w => numsAny_walk (s.extract 1 s.size) w (by rw [ByteArray.size_extract]; omega))
      have Htsb := Lib.hid htsb
      have Ht0 := Lib.hid ht0
      clear ht0 h0 htsb
      by_cases hok : okN (s.extract 1 s.size)
      · have hyes := Lib.hid (show okP s from ⟨hp, by rw [Htsb.out]; exact Ht0.out, hok⟩)
        have Hok := Lib.hid hok
        clear hok
        go_enter Try.func81, Try.ntmps81
        go_wp2_with (go_at_call 83; refine (nums_ok_of Hok.out (HN.out _)).mono ?_; rintro e w1 ⟨⟨A, c, rfl, il⟩, hb1⟩)
        refine bodyPost_ret (v := .tuple #[.int .i64 (t : Nat), .slice A ((s.extract 1 s.size).size / 8) c, .bool true]) (by simp [results, Try.results81, go_sem]) rfl (pany_yes hyes.out A c (by rw [Htsb.out]) il hb1)
      · have hno := Lib.hid (show ¬ okP s from fun h => hok h.2.2)
        have Hok := Lib.hid hok
        clear hok
        go_enter Try.func81, Try.ntmps81
        go_wp2_with (go_at_call 83; refine (nums_no_of Hok.out (HN.out _)).mono ?_; rintro e w1 ⟨rfl, hb1⟩)
        refine bodyPost_ret (v := .tuple #[.int .i64 0, .slice none 0 0, .bool false]) (by simp [results, Try.results81, go_sem]) rfl (pany_no hno.out rfl hb1)
set_option maxRecDepth 100000 in
set_option maxHeartbeats 1000000 in
theorem rparseAny_walk (s : ByteArray) (w : World) (hs : s.size ≤ 800) : Calls Try.prog 87 #[.string s] w (PAny s w) := by
  by_cases h0 : s.size = 0
  · have e0 : s.toList.isEmpty = true := by
      rw [ByteArray.toList_eq, List.isEmpty_iff]
      exact List.eq_nil_of_length_eq_zero h0
    have e1 : ((s.size : Int) == 0) = true := by rw [beq_iff_eq]; omega
    have hno := Lib.hid (show ¬ okP s from fun h => by have := h.1; omega)
    have Il0 := Lib.hid (Il.nil w (chv (s.extract 1 s.size)) (chv_lt _))
    clear h0
    go_enter Try.func87, Try.ntmps87
    go_wp2
    refine bodyPost_ret (v := .tuple #[.int .i64 0, .slice none 0 0, .bool false]) (by simp [results, Try.results87, go_sem]) rfl (pany_no hno.out rfl (Below.refl _ _))
  · have e0 : s.toList.isEmpty = false := by
      rw [ByteArray.toList_eq, List.isEmpty_eq_false_iff]
      intro e
      exact h0 (congrArg List.length e)
    have e1 : ((s.size : Int) == 0) = false := by rw [beq_eq_false_iff_ne]; omega
    have hp : 0 < s.size := by omega
    obtain ⟨t, ht⟩ : ∃ t, t = (s[0]'hp).toNat := ⟨_, rfl⟩
    have ht' := ht.symm
    have htb : t < 256 := by rw [ht]; exact UInt8.toNat_lt _
    have htsb : sb s 0 = t := by unfold sb; rw [dif_pos (show 0 < s.data.size from hp)]; exact ht'
    clear ht
    by_cases ht0 : t = 0
    · have b1 : ((t : Int) == 0) = true := by rw [beq_iff_eq]; omega
      have hno := Lib.hid (show ¬ okP s from fun h => h.2.1 (by rw [htsb]; exact ht0))
      clear ht0 h0
      go_enter Try.func87, Try.ntmps87
      go_wp2
      refine bodyPost_ret (v := .tuple #[.int .i64 0, .slice none 0 0, .bool false]) (by simp [results, Try.results87, go_sem]) rfl (pany_no hno.out rfl (Below.refl _ _))
    · have b1 : ((t : Int) == 0) = false := by rw [beq_eq_false_iff_ne]; omega
      have b2 : IntKind.i64.wrap (t : Int) = (t : Int) := IntWalk.i64_in _ (by omega)
      have HN := Lib.hid (fun w => rnums_walk (s.extract 1 s.size) w (by rw [ByteArray.size_extract]; omega))
      have Htsb := Lib.hid htsb
      have Ht0 := Lib.hid ht0
      clear ht0 h0 htsb
      by_cases hok : okN (s.extract 1 s.size)
      · have hyes := Lib.hid (show okP s from ⟨hp, by rw [Htsb.out]; exact Ht0.out, hok⟩)
        have Hok := Lib.hid hok
        clear hok
        go_enter Try.func87, Try.ntmps87
        go_wp2_with (go_at_call 88; refine (nums_ok_of Hok.out (HN.out _)).mono ?_; rintro e w1 ⟨⟨A, c, rfl, il⟩, hb1⟩)
        refine bodyPost_ret (v := .tuple #[.int .i64 (t : Nat), .slice A ((s.extract 1 s.size).size / 8) c, .bool true]) (by simp [results, Try.results87, go_sem]) rfl (pany_yes hyes.out A c (by rw [Htsb.out]) il hb1)
      · have hno := Lib.hid (show ¬ okP s from fun h => hok h.2.2)
        have Hok := Lib.hid hok
        clear hok
        go_enter Try.func87, Try.ntmps87
        go_wp2_with (go_at_call 88; refine (nums_no_of Hok.out (HN.out _)).mono ?_; rintro e w1 ⟨rfl, hb1⟩)
        refine bodyPost_ret (v := .tuple #[.int .i64 0, .slice none 0 0, .bool false]) (by simp [results, Try.results87, go_sem]) rfl (pany_no hno.out rfl hb1)
theorem rfb_c (A : Option Addr) (c x : Nat) (ok : Bool) (s : ByteArray) (w : World) (hs : Sl w A s.size (sb s)) (hx : fbv s = x) (hok : decide (s.size = 32) = ok) : Calls Try.prog 28 #[.slice A s.size c] w fun e w' => e = .returned (.tuple #[U x, .bool ok]) ∧ Below w.heap.size w w' := by
  rw [← hx, ← hok]; exact rfb_walk A s.size c (sb s) w hs
set_option maxRecDepth 100000 in
set_option maxHeartbeats 1000000 in
theorem rtoAmount_walk (s : ByteArray) (x : Nat) (ok : Bool) (w : World) (hx : fbv s = x) (hok : decide (s.size = 32) = ok) : Calls Try.prog 89 #[.string s] w fun e w' => e = .returned (.tuple #[U x, .bool ok]) ∧ Below w.heap.size w w' := by
  have hcv := fun w s => run_bytes_of_string (P := Try.prog) w 9 33 5 s Try.underlying9 Try.underlying33 Try.underlying5
  have Hx := Lib.hid hx
  have Hok := Lib.hid hok
  clear hx hok
  have z0 := (Arr.new4 (κ := .u64) (w := w) (t := 24) (f := fun _ => 0) (b := w.heap.size) rfl)
  have Z0 := Lib.hid z0
  clear z0
  unfold U
  go_enter Try.func89, Try.ntmps89
  go_wp2_with (go_at_call 28; refine (rfb_c (some ⟨w.heap.size + 1, 0, none⟩) _ x ok s _ (sl_conv s (w.alloc (.cells #[.int .u64 0, .int .u64 0, .int .u64 0, .int .u64 0] 24)) _ _ _ _ _ (by simp)) Hx.out Hok.out).mono ?_; rintro e w1 ⟨rfl, hb1⟩; have z1 := ((Z0.out.alloc _).drew).below hb1 (by show w.heap.size < ((w.alloc _).alloc _).heap.size; simp only [World.size_alloc]; omega); obtain ⟨f0, f1, f2, f3⟩ := z1.frees4; obtain ⟨c0, c1, c2, c3⟩ := z1.cells4; unfold U)
  refine bodyPost_ret (v := .tuple #[.agg #[.int .u64 (limb x 0 : Nat), .int .u64 (limb x 1 : Nat), .int .u64 (limb x 2 : Nat), .int .u64 (limb x 3 : Nat)], .bool ok]) (by simp [results, Try.results89, go_sem, c0, c1, c2, c3]) rfl ⟨rfl, below_set4 ((below_drewN (((Below.refl _ _).alloc (Nat.le_refl _) _).alloc (by simp) _) 1).trans (hb1.mono (by show w.heap.size ≤ ((w.alloc _).alloc _).heap.size; simp only [World.size_alloc]; omega))) (Nat.le_refl _)⟩
set_option maxRecDepth 100000 in
theorem table_walk (t : Int) (w : World) : Calls Try.prog 91 #[.int .i64 t] w fun e w' => e = .returned (.string (keyStr t (fun _ => 0) 0)) ∧ Below w.heap.size w w' := by
  have hk := Lib.hid (fun w => key_walk t none 0 0 (fun _ => 0) w (Il.nil w _ (fun _ => by decide)) (by omega))
  go_enter Try.func91, Try.ntmps91
  go_wp2_with (go_at_call 80; refine (hk.out _).mono ?_; rintro e w1 ⟨rfl, hb1⟩)
  go_ret
  exact ⟨rfl, hb1⟩
end Go.Proofs.Ythglnedlbiembaa
