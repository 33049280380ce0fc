/- tallageref01.Times, walked. -/
import Derived.Test.YtomhbggfdjooaaaDoorR7
import Derived.OwnWalk
namespace Go.Proofs.YtomhbggfdjooaaaDoor
open Go.RowKit Go.Sort

theorem wpList_make_arr {P : Program} (w : World) {ops : Array Oper} {rest : List Oper} {o : Oper} {a : Act} {Q : Exit → Act → World → Prop}
    (hg : o.guard = none) (l c : Operand) (t : TypeId) (hop : o.op = Op.makeSlice t l c)
    (e : TypeId) (i : TypeInfo) (z : Value) (size : Nat) (h1 : P.underlying t = some (.slice e)) (h2 : P.info? e = some i) (h3 : i.zero = some z) (h4 : i.size = size)
    (kl kc : IntKind) (L C : Int) (n m : Nat) (hl : a.eval l = .int kl L) (hc : a.eval c = .int kc C) (hL : L = (n : Int)) (hC : C = (m : Int)) (hnm : n ≤ m) (b2 : i.bytes * m ≤ 281474976710656) (b3 : m ≤ maxLen)
    (hK : wpList P ops Q rest (a.put o.dst (.slice (some ⟨w.heap.size, 0, none⟩) n m)) (w.alloc (.cells (madeCells z.cells (m * size)) e))) :
    wpList P ops Q (o :: rest) a w := by
  subst h4
  have h63' : (m : Int) ≤ 9223372036854775807 := by
    have h := b3
    simp [maxLen] at h
    omega
  have hb' : (i.bytes : Int) * (m : Int) ≤ 281474976710656 := by
    have h : ((i.bytes * m : Nat) : Int) ≤ 281474976710656 := by omega
    rwa [Int.natCast_mul] at h
  have hr := run_make (P := P) w t e i z h1 h2 h3 kl kc n m (by omega) (by omega) hb' h63'
  simp only [Int.toNat_natCast] at hr
  refine wpList_plain hg fun K hK' => ?_
  subst hL
  subst hC
  unfold Oper.wp
  simp [execOp, hop, hl, hc, hr, Result.andThen]
  exact hK' _ _ hK
theorem Arr.Ws {w : World} {g N : Nat} {F : Nat → Nat} (h : Arr .u32 w g N F) (hF : ∀ i, F i < 2 ^ 32) (hg : g < w.heap.size) : Ws w (.slice (some ⟨g, 0, none⟩) N N) N F :=
  ⟨hF, .inr ⟨g, 0, N, rfl, Nat.le_refl _, hg, fun i hi => by rw [Nat.zero_add]; exact h.cell i hi⟩⟩
theorem nval_upd_at (f : Nat → Nat) (v : Nat) {i : Nat} : ∀ {n : Nat}, i < n → nval (upd f i v) n + f i * 2 ^ (32 * i) = nval f n + v * 2 ^ (32 * i)
  | 0, h => by omega
  | n + 1, h => by
    simp only [nval]
    by_cases hi : i = n
    · subst hi
      have e := nval_congr (f := upd f i v) (g := f) i (fun j hj => upd_ne f (by omega))
      rw [e, upd_same]; omega
    · have := nval_upd_at f v (show i < n by omega)
      rw [upd_ne f (fun e => hi e.symm)]; omega

def TimOut (n m : Nat) (f g : Nat → Nat) (B : Nat) (w : World) (x : Value) (wr : World) : Prop :=
  ∃ (i : Nat) (F : Nat → Nat), i ≤ n ∧ x = .int .i64 (i : Nat) ∧ (∀ t, F t < 2 ^ 32) ∧ (∀ t, i + m ≤ t → F t = 0) ∧ nval F (n + m) = nval f i * nval g m ∧
    Arr .u32 wr B (n + m) F ∧ Below w.heap.size w wr ∧ w.heap.size ≤ B ∧ B < wr.heap.size
def TimIn (n m i V0 : Nat) (f g : Nat → Nat) (B : Nat) (w : World) (y z : Value) (wr : World) : Prop :=
  ∃ (j c : Nat) (F : Nat → Nat), j ≤ m + 1 ∧ z = .int .i64 (j : Nat) ∧ y = .int .u64 (c : Nat) ∧ c < 2 ^ 32 ∧ (j = m + 1 → c = 0) ∧ (∀ t, F t < 2 ^ 32) ∧ (∀ t, i + m + 1 ≤ t → F t = 0) ∧ (j ≤ m → F (i + m) = 0) ∧
    nval F (n + m) + c * 2 ^ (32 * (i + j)) = V0 + f i * nval (padw g m) j * 2 ^ (32 * i) ∧
    Arr .u32 wr B (n + m) F ∧ Below w.heap.size w wr ∧ w.heap.size ≤ B ∧ B < wr.heap.size
theorem tim_math {Fk x gj lo hi c v v' V0 vb P Q R M X : Nat} (hv : v' + Fk * P = v + lo * P) (h : v + c * P = V0 + x * vb * Q) (hs : lo + hi * M = X) (hX : X = Fk + c + x * gj) (hP : P = R * Q) :
    v' + hi * (M * P) = V0 + x * (vb + gj * R) * Q := by
  have h1 := congrArg (· * P) hs
  simp only [Nat.add_mul, Nat.mul_assoc, hX] at h1
  have e : x * (vb + gj * R) * Q = x * vb * Q + x * (gj * P) := by rw [hP, Nat.mul_add, Nat.add_mul, Nat.mul_assoc, Nat.mul_assoc, Nat.mul_assoc]
  rw [e]
  omega

set_option maxRecDepth 100000 in
set_option maxHeartbeats 8000000 in
theorem times_walk (va vb : Value) (n m : Nat) (f g : Nat → Nat) (w : World) (ha : Ws w va n f) (hb : Ws w vb m g) (hn : n ≤ 30) (hm : m ≤ 30) :
    Calls Tryd.prog 34 #[va, vb] w (NatPost (nval f n * nval g m) (n + m) w) := by
  obtain ⟨i0, hi, hz0, hz1, hz2⟩ := info_parts infoU32
  obtain ⟨A, ca, rfl, oa⟩ := ha.open_
  obtain ⟨B, cb, rfl, ob⟩ := hb.open_
  have Hf := Lib.hid ha.small
  have Hg := Lib.hid hb.small
  have Oa := Lib.hid oa
  have Ob := Lib.hid ob
  clear ha hb oa ob
  have q0 : IntKind.i64.wrap ((n : Int) + (m : Int)) = (n : Int) + (m : Int) := IntWalk.i64_in _ (by omega)
  go_enter Tryd.func34, Tryd.ntmps34
  go_wp2_with (at_make; refine wpList_make_arr _ rfl _ _ _ rfl 53 i0 (.int .u32 0) 1 Tryd.underlying42 hi hz0 hz1 .i64 .i64 _ _ (n + m) (n + m) rfl rfl (by omega) (by omega) (Nat.le_refl _) (by rw [hz2]; omega) (by unfold maxLen; omega) ?_)
  have hA0 : Arr .u32 (w.alloc (.cells (madeCells #[Value.int IntKind.u32 0] (n + m)) 53)) w.heap.size (n + m) (fun _ => 0) := by
    refine Arr.alloc_new w _ _ fun i hi => ?_
    have e : (madeCells #[Value.int IntKind.u32 0] (n + m)).toList = List.replicate (n + m) (.int .u32 0) := toList_madeCells_one _ _
    rw [← Array.getElem?_toList, e, List.getElem?_replicate, if_pos hi]; rfl
  go_loopw [19] (TimOut n m f g w.heap.size w) (fun x _ => n - (intOf x).toNat)
  case atStart =>
    exact ⟨0, fun _ => 0, Nat.zero_le _, rfl, by simp, by simp, by rw [nval_top (f := fun _ => 0) (k := 0) (Nat.zero_le _) (fun _ _ _ => rfl)]; simp [nval], hA0, (Below.refl _ _).alloc (Nat.le_refl _) _, Nat.le_refl _, by simp⟩
  case round =>
    clear hA0
    obtain ⟨i, F, hin, rfl, hF, hF0, hv, hA, hbel, hB0, hB1⟩ := hrel
    by_cases hlt : i < n
    · have q1 : (i : Int) < (n : Int) := by omega
      obtain ⟨ga, ofa, rfl, hga, hxa⟩ := Oa.out (by omega)
      have ca1 : wr.cell? ⟨ga, ofa + i, none⟩ = some (.int .u32 (f i : Nat)) := by rw [hbel.cell (p := ⟨ga, ofa + i, none⟩) hga]; exact hxa i hlt
      have fi := Hf.out i
      have sx : IntKind.u64.wrap ((f i : Nat) : Int) = ((f i : Nat) : Int) := wrap_u64 (by omega)
      have HF := Lib.hid hF
      have HF0 := Lib.hid hF0
      have Hv := Lib.hid hv
      have HA := Lib.hid hA
      have HBel := Lib.hid hbel
      clear hF hF0 hv hA hbel hxa
      go_wp2
      go_loopw [8, 9] (TimIn n m i (nval F (n + m)) f g w.heap.size w) (fun _ z _ => m + 2 - (intOf z).toNat)
      case atStart =>
        exact ⟨0, 0, F, Nat.zero_le _, rfl, rfl, by omega, fun _ => rfl, HF.out, fun t ht => HF0.out t (by omega), fun _ => HF0.out _ (Nat.le_refl _), by simp only [nval]; omega, HA.out, HBel.out, hB0, hB1⟩
      case round =>
        obtain ⟨j, c, G, hjm, rfl, rfl, hc, hlast, hG, hG0, hGm, hvg, hA, hbel, _, hB2⟩ := hrel
        have Hlast := Lib.hid hlast
        have HG := Lib.hid hG
        have HG0 := Lib.hid hG0
        have HGm := Lib.hid hGm
        have Hvg := Lib.hid hvg
        have HA2 := Lib.hid hA
        have HB2 := Lib.hid hbel
        clear hlast hG hG0 hGm hvg
        have run : (∃ h : Hid (j < m), True) ∨ (∃ h : Hid (j = m ∧ 0 < c), True) ∨ (∃ h : Hid (¬ j < m ∧ c = 0), True) := by
          by_cases h1 : j < m
          · exact .inl ⟨Lib.hid h1, trivial⟩
          · by_cases h2 : c = 0
            · exact .inr (.inr ⟨Lib.hid ⟨h1, h2⟩, trivial⟩)
            · refine .inr (.inl ⟨Lib.hid ⟨?_, by omega⟩, trivial⟩)
              rcases (show j = m ∨ j = m + 1 by omega) with h3 | h3
              · exact h3
              · exact absurd (Hlast.out h3) h2
        rcases run with ⟨h1, _⟩ | ⟨h1, _⟩ | ⟨h1, _⟩
        · have h1' := h1.out
          have q2 : (j : Int) < (m : Int) := by omega
          have hij : i + j < n + m := by omega
          have q3 : IntKind.i64.wrap ((i : Int) + (j : Int)) = (i : Int) + (j : Int) := IntWalk.i64_in _ (by omega)
          have q4 : ((i : Int) + (j : Int)).toNat = i + j := by omega
          have q5 : (i : Int) + (j : Int) < (n : Int) + (m : Int) := by omega
          have q6 : (0 : Int) ≤ (i : Int) + (j : Int) := by omega
          obtain ⟨gb, ofb, rfl, hgb, hxb⟩ := Ob.out (by omega)
          have cb1 : wr.cell? ⟨gb, ofb + j, none⟩ = some (.int .u32 (g j : Nat)) := by rw [hbel.cell (p := ⟨gb, ofb + j, none⟩) hgb]; exact hxb j h1'
          have cg := hA.cell (i + j) hij
          have fg := hA.free (i + j) hij
          have gl := Hg.out j
          have Gl := HG.out (i + j)
          have s1 : IntKind.u64.wrap ((g j : Nat) : Int) = ((g j : Nat) : Int) := wrap_u64 (by omega)
          have s2 : IntKind.u64.wrap ((G (i + j) : Nat) : Int) = ((G (i + j) : Nat) : Int) := wrap_u64 (by omega)
          obtain ⟨y0, hy0⟩ : ∃ y, y = G (i + j) + c := ⟨_, rfl⟩
          obtain ⟨p, hp⟩ : ∃ y, y = f i * g j := ⟨_, rfl⟩
          obtain ⟨X, hX⟩ : ∃ y, y = y0 + p := ⟨_, rfl⟩
          have hpl : p ≤ 4294967295 * 4294967295 := by rw [hp]; exact Nat.mul_le_mul (by omega) (by omega)
          have s3 : IntKind.u64.wrap ((G (i + j) : Nat) + (c : Int)) = (y0 : Int) := by rw [← Int.natCast_add, ← hy0, wrap_u64 (by omega)]
          have s4 : IntKind.u64.wrap (((f i : Nat) : Int) * (g j : Nat)) = (p : Int) := by rw [← Int.natCast_mul, ← hp, wrap_u64 (by omega)]
          have s5 : IntKind.u64.wrap ((y0 : Int) + (p : Int)) = (X : Int) := by rw [← Int.natCast_add, ← hX, wrap_u64 (by omega)]
          obtain ⟨lo, hlo⟩ : ∃ y, y = X % 4294967296 := ⟨_, rfl⟩
          obtain ⟨hi', hhi⟩ : ∃ y, y = X / 4294967296 := ⟨_, rfl⟩
          have s6 : IntKind.u32.wrap (X : Int) = (lo : Int) := by rw [IntKind.wrap_u32]; omega
          have s7 : (X : Int) / 4294967296 = (hi' : Int) := by omega
          have Hm := Lib.hid (show lo < 2 ^ 32 ∧ hi' < 2 ^ 32 ∧ lo + hi' * 2 ^ 32 = X ∧ X = G (i + j) + c + f i * g j by refine ⟨by omega, by omega, by omega, by rw [hX, hy0, hp]⟩)
          clear hxb gl Gl hy0 hp hX hpl hlo hhi hA hbel fi h1' hij
          go_wp2
          go_roundw
          case rel =>
            have hij : i + j < n + m := by have := h1.out; omega
            have hjm' : j < m := h1.out
            refine ⟨j + 1, hi', upd G (i + j) lo, by omega, by go_num, rfl, Hm.out.2.1, fun e => by omega, upd_lt HG.out Hm.out.1, ?_, ?_, ?_, HA2.out.set hij, HB2.out.setCell hB0 _, hB0, by rw [World.size_setCell]; exact hB2⟩
            · intro t ht; rw [upd_ne _ (by omega)]; exact HG0.out t ht
            · intro _; rw [upd_ne _ (by omega)]; exact HGm.out (by omega)
            · have h2 := nval_upd_at G lo hij
              have e1 : padw g m j = g j := by unfold padw; rw [if_pos hjm']
              rw [show i + (j + 1) = i + j + 1 from rfl, pow_succ32]
              simp only [nval]
              rw [e1]
              exact tim_math h2 Hvg.out Hm.out.2.2.1 Hm.out.2.2.2 (by rw [← Nat.pow_add]; congr 1; omega)
          case measure => simp [intOf]; omega
        · have hjm' := h1.out.1
          have hc0 := h1.out.2
          have q2 : ¬ (j : Int) < (m : Int) := by omega
          have q2' : (0 : Int) < (c : Int) := by omega
          have hij : i + j < n + m := by omega
          have q3 : IntKind.i64.wrap ((i : Int) + (j : Int)) = (i : Int) + (j : Int) := IntWalk.i64_in _ (by omega)
          have q4 : ((i : Int) + (j : Int)).toNat = i + j := by omega
          have q5 : (i : Int) + (j : Int) < (n : Int) + (m : Int) := by omega
          have q6 : (0 : Int) ≤ (i : Int) + (j : Int) := by omega
          have cg := hA.cell (i + j) hij
          have fg := hA.free (i + j) hij
          have Gl := HG.out (i + j)
          have hG0 : G (i + j) = 0 := by rw [hjm']; exact HGm.out (by omega)
          have s2 : IntKind.u64.wrap ((G (i + j) : Nat) : Int) = ((G (i + j) : Nat) : Int) := wrap_u64 (by omega)
          obtain ⟨X, hX⟩ : ∃ y, y = G (i + j) + c := ⟨_, rfl⟩
          have s3 : IntKind.u64.wrap ((G (i + j) : Nat) + (c : Int)) = (X : Int) := by rw [← Int.natCast_add, ← hX, wrap_u64 (by omega)]
          have s6 : IntKind.u32.wrap (X : Int) = (X : Int) := by rw [IntKind.wrap_u32]; omega
          have s7 : (X : Int) / 4294967296 = 0 := by omega
          have Hm := Lib.hid (show X < 2 ^ 32 ∧ X = G (i + j) + c by omega)
          clear Gl hX hA hbel fi hjm' hc0 hij hG0
          go_wp2
          go_roundw
          case rel =>
            have hjm' := h1.out.1
            have hij : i + j < n + m := by omega
            refine ⟨j + 1, 0, upd G (i + j) X, by omega, by go_num, rfl, by omega, fun e => rfl, upd_lt HG.out Hm.out.1, ?_, ?_, ?_, HA2.out.set hij, HB2.out.setCell hB0 _, hB0, by rw [World.size_setCell]; exact hB2⟩
            · intro t ht; rw [upd_ne _ (by omega)]; exact HG0.out t ht
            · intro h; omega
            · have h2 := nval_upd_at G X hij
              have e1 : padw g m j = 0 := by unfold padw; rw [if_neg (by omega)]
              have h3 := Hvg.out
              simp only [nval]
              have h4 : X * 2 ^ (32 * (i + j)) = G (i + j) * 2 ^ (32 * (i + j)) + c * 2 ^ (32 * (i + j)) := by rw [Hm.out.2, Nat.add_mul]
              rw [e1, Nat.zero_mul, Nat.add_zero, Nat.zero_mul, Nat.add_zero, ← h3]
              omega
          case measure => simp [intOf]; omega
        · have q2 : ¬ (j : Int) < (m : Int) := by have := h1.out.1; omega
          have hc0 : c = 0 := h1.out.2
          have q2' : ¬ (0 : Int) < (c : Int) := by omega
          have Hc0 := Lib.hid hc0
          clear hc0 hA hbel fi
          go_wp2
          go_roundw
          case rel =>
            refine ⟨i + 1, G, by omega, by go_num, HG.out, fun t ht => HG0.out t (by omega), ?_, HA2.out, HB2.out, hB0, hB2⟩
            have h3 := Hvg.out
            rw [Hc0.out, Nat.zero_mul, Nat.add_zero, nval_pad g (by have := h1.out.1; omega), Hv.out] at h3
            rw [h3]
            simp only [nval]
            rw [Nat.add_mul, Nat.mul_right_comm]
          case measure => simp [intOf]; omega
    · have q1 : ¬ (i : Int) < (n : Int) := by omega
      have hin' : i = n := by omega
      rw [hin'] at hv
      have hws := hA.Ws hF hB1
      have Hv := Lib.hid hv
      have Hws := Lib.hid hws
      have q8 : ((n : Int) + (m : Int)).toNat = n + m := by omega
      clear hv hws hA hF hF0 hin'
      go_wp2_with (go_at_call 40; refine (trim_walk _ _ _ _ Hws.out (by omega)).mono ?_; rintro e w' ⟨v, k, rfl, hk, hw, hnv, htr, rfl⟩)
      go_ret
      exact ⟨⟨v, rfl, k, F, hk, hw, by rw [hnv]; exact Hv.out, htr⟩, hbel⟩
end Go.Proofs.YtomhbggfdjooaaaDoor
