/- tallageref01.QuoRem, walked. -/
import Derived.Test.YtomhbggfdjooaaaDoorRB
namespace Go.Proofs.YtomhbggfdjooaaaDoor
open Go.RowKit Go.Sort

def QrPost (A B n m : Nat) (w : World) (e : Ending) (w' : World) : Prop :=
  ((B = 0 ∧ e = .returned (.tuple #[.slice none 0 0, .slice none 0 0])) ∨ (B ≠ 0 ∧ ∃ q r, e = .returned (.tuple #[q, r]) ∧ NatV w' q (A / B) n ∧ NatV w' r (A % B) (m + 1))) ∧ Below w.heap.size w w'
/-- the rows of the quotient and of the rest, as they lie -/
structure QrMem (w wr : World) (n m1 Bq Br : Nat) (Q R : Nat → Nat) : Prop where
  q : Arr .u32 wr Bq n Q
  r : Arr .u32 wr Br (m1 + 1) R
  l : Below w.heap.size w wr
  o1 : w.heap.size ≤ Bq
  o2 : Bq < Br
  o3 : Br < wr.heap.size
theorem QrMem.below {w wr w' : World} {n m1 Bq Br : Nat} {Q R : Nat → Nat} (h : QrMem w wr n m1 Bq Br Q R) (hb : Below wr.heap.size wr w') : QrMem w w' n m1 Bq Br Q R := by
  have := h.o1; have := h.o2; have := h.o3; have := hb.size
  exact ⟨h.q.below hb (by omega), h.r.below hb (by omega), h.l.trans (hb.mono (by omega)), h.o1, h.o2, by omega⟩
theorem QrMem.setR {w wr : World} {n m1 Bq Br j v : Nat} {Q R : Nat → Nat} (h : QrMem w wr n m1 Bq Br Q R) (hj : j < m1 + 1) : QrMem w (wr.setCell ⟨Br, j, none⟩ (.int .u32 (v : Nat))) n m1 Bq Br Q (upd R j v) := by
  have := h.o1; have := h.o2
  exact ⟨h.q.set_far (by omega), h.r.set hj, h.l.setCell (by show w.heap.size ≤ Br; omega) _, h.o1, h.o2, by rw [World.size_setCell]; exact h.o3⟩
theorem QrMem.setQ {w wr : World} {n m1 Bq Br j v : Nat} {Q R : Nat → Nat} (h : QrMem w wr n m1 Bq Br Q R) (hj : j < n) : QrMem w (wr.setCell ⟨Bq, j, none⟩ (.int .u32 (v : Nat))) n m1 Bq Br (upd Q j v) R := by
  have := h.o1; have := h.o2
  exact ⟨h.q.set hj, h.r.set_far (by omega), h.l.setCell (by show w.heap.size ≤ Bq; omega) _, h.o1, h.o2, by rw [World.size_setCell]; exact h.o3⟩
def QrRel (A B n m1 Bq Br : Nat) (w : World) (x : Value) (wr : World) : Prop :=
  ∃ (k : Nat) (Q R : Nat → Nat), k ≤ 32 * n ∧ x = .int .i64 ((k : Int) - 1) ∧ (∀ t, Q t < 2 ^ 32) ∧ (∀ t, R t < 2 ^ 32) ∧ nval R (m1 + 1) = A / 2 ^ k % B ∧ nval Q n = A / 2 ^ k / B * 2 ^ k ∧ QrMem w wr n m1 Bq Br Q R
def ShRel (n m1 Bq Br bit : Nat) (Q R : Nat → Nat) (w : World) (y z : Value) (wr : World) : Prop :=
  ∃ (j c : Nat) (F : Nat → Nat), j ≤ m1 + 1 ∧ z = .int .i64 (j : Nat) ∧ y = .int .u32 (c : Nat) ∧ c ≤ 1 ∧ (∀ t, F t < 2 ^ 32) ∧ (∀ t, j ≤ t → F t = R t) ∧ nval F j + c * 2 ^ (32 * j) = 2 * nval R j + bit ∧ QrMem w wr n m1 Bq Br Q F
def CpRel (n m1 Bq Br n2 : Nat) (Q h : Nat → Nat) (w w4 : World) (z : Value) (wr : World) : Prop :=
  ∃ (j : Nat) (F : Nat → Nat), j ≤ m1 + 1 ∧ z = .int .i64 (j : Nat) ∧ (∀ t, F t < 2 ^ 32) ∧ (∀ t, t < j → F t = padw h n2 t) ∧ (∀ a, a.block ≠ Br → wr.cell? a = w4.cell? a) ∧ QrMem w wr n m1 Bq Br Q F
theorem trimmed_zero {n : Nat} {f : Nat → Nat} (h : Trimmed n f) : nval f n = 0 ↔ n = 0 := by
  constructor
  · intro h0
    rcases h with h1 | h1
    · exact h1
    · obtain ⟨k, rfl⟩ | h2 : (∃ k, n = k + 1) ∨ n = 0 := by
        rcases n with _ | n
        · exact .inr rfl
        · exact .inl ⟨n, rfl⟩
      · rw [Nat.add_sub_cancel] at h1
        have h3 : 0 < 2 ^ (32 * k) := Nat.pow_pos (by decide)
        have h4 := Nat.mul_le_mul_right (2 ^ (32 * k)) (show 1 ≤ f k by omega)
        simp only [nval] at h0
        omega
      · exact h2
  · rintro rfl; rfl

set_option maxRecDepth 100000 in
set_option maxHeartbeats 8000000 in
theorem quoRem_walk (va vb : Value) (n m : Nat) (f g : Nat → Nat) (w : World) (ha : Ws w va n f) (hb : Ws w vb m g) (hn : n ≤ 20) (hm : m ≤ 20) :
    Calls Tryd.prog 33 #[va, vb] w (QrPost (nval f n) (nval g m) n m w) := by
  obtain ⟨i0, hi, hz0, hz1, hz2⟩ := info_parts infoU32
  obtain ⟨AA, ca, rfl, oa⟩ := ha.open_
  have Hb := Lib.hid hb
  have Hf := Lib.hid ha.small
  have Oa := Lib.hid oa
  obtain ⟨N, hN⟩ : ∃ N, N = nval f n := ⟨_, rfl⟩
  obtain ⟨D, hD⟩ : ∃ D, D = nval g m := ⟨_, rfl⟩
  rw [← hN, ← hD]
  have HN := Lib.hid hN
  have HD := Lib.hid hD
  clear ha hb oa hN hD
  go_enter Tryd.func33, Tryd.ntmps33
  go_wp2_with fail
  refine (trim_walk _ _ _ _ Hb.out (by omega)).mono ?_
  rintro e w1 ⟨v1, m1, rfl, hm1, hw1, hv1, ht1, rfl⟩
  have hD1 : nval g m1 = D := by rw [hv1, HD.out]
  have hD0 : D = 0 ↔ m1 = 0 := by rw [← hD1]; exact trimmed_zero ht1
  have Hw1 := Lib.hid hw1
  obtain ⟨B, cb, rfl, ob⟩ := hw1.open_
  have HD1 := Lib.hid hD1
  have HD0 := Lib.hid hD0
  clear hw1 hv1 ht1 hD1 hD0 ob
  by_cases h0 : m1 = 0
  · have q1 : ((m1 : Int) == 0) = true := by rw [h0]; rfl
    have q2 : (m1 : Int) = 0 := by omega
    have Hz := Lib.hid (HD0.out.2 h0)
    clear h0
    go_wp2
    refine bodyPost_ret (v := .tuple #[.slice none 0 0, .slice none 0 0]) (by simp [results, Tryd.results33, go_sem]) rfl ⟨.inl ⟨Hz.out, rfl⟩, Below.refl _ _⟩
  · have q1 : ((m1 : Int) == 0) = false := by rw [beq_eq_false_iff_ne]; omega
    have q2 : ¬ (m1 : Int) = 0 := by omega
    have q3 : IntKind.i64.wrap ((m1 : Int) + 1) = (m1 : Int) + 1 := IntWalk.i64_in _ (by omega)
    have q4 : IntKind.i64.wrap (32 * (n : Int)) = 32 * (n : Int) := IntWalk.i64_in _ (by omega)
    have q5 : IntKind.i64.wrap (32 * (n : Int) - 1) = 32 * (n : Int) - 1 := IntWalk.i64_in _ (by omega)
    have HDp := Lib.hid (show 0 < D from Nat.pos_of_ne_zero (fun h => h0 (HD0.out.1 h)))
    have Hm1 := Lib.hid h0
    clear h0
    go_upto_region 5 with (at_make; refine wpList_make_arr _ rfl _ _ _ rfl 53 i0 (.int .u32 0) 1 Tryd.underlying42 hi hz0 hz1 .i64 .i64 _ _ n n rfl rfl rfl rfl (Nat.le_refl _) (by rw [hz2]; omega) (by unfold maxLen; omega) ?_)
    go_wp2_with (at_make; refine wpList_make_arr _ rfl _ _ _ rfl 53 i0 (.int .u32 0) 1 Tryd.underlying42 hi hz0 hz1 .i64 .i64 _ _ (m1 + 1) (m1 + 1) rfl rfl (by omega) (by omega) (Nat.le_refl _) (by rw [hz2]; omega) (by unfold maxLen; omega) ?_)
    have zr : ∀ (W : World) (k : Nat), Arr .u32 (W.alloc (.cells (madeCells #[Value.int IntKind.u32 0] k) 53)) W.heap.size k (fun _ => 0) := fun W k => by
      refine Arr.alloc_new W _ _ fun i hi => ?_
      have e : (madeCells #[Value.int IntKind.u32 0] k).toList = List.replicate k (.int .u32 0) := toList_madeCells_one _ _
      rw [← Array.getElem?_toList, e, List.getElem?_replicate, if_pos hi]; rfl
    obtain ⟨Bq, hBq⟩ : ∃ b, b = w1.heap.size := ⟨_, rfl⟩
    obtain ⟨Br, hBr⟩ : ∃ b, b = w1.heap.size + 1 := ⟨_, rfl⟩
    have mem : QrMem w1 ((w1.alloc (.cells (madeCells #[Value.int IntKind.u32 0] n) 53)).alloc (.cells (madeCells #[Value.int IntKind.u32 0] (m1 + 1)) 53)) n m1 Bq Br (fun _ => 0) (fun _ => 0) := by
      refine ⟨?_, ?_, ((Below.refl _ _).alloc (Nat.le_refl _) _).alloc (by simp only [World.size_alloc]; omega) _, by omega, by omega, by simp only [World.size_alloc]; omega⟩
      · rw [hBq]; exact (zr w1 n).alloc _
      · have h := zr (w1.alloc (.cells (madeCells #[Value.int IntKind.u32 0] n) 53)) (m1 + 1)
        rw [World.size_alloc, ← hBr] at h
        exact h
    rw [← hBr, ← hBq]
    have Mem := Lib.hid mem
    have HBr := Lib.hid hBr
    clear zr mem hBq hBr
    go_loopw [8] (QrRel N D n m1 Bq Br w1) (fun x _ => (intOf x + 1).toNat)
    case atStart =>
      have hz : N / 2 ^ (32 * n) = 0 := Nat.div_eq_of_lt (by rw [HN.out]; exact nval_lt n (fun i _ => Hf.out i))
      have z0 : ∀ k, nval (fun _ => 0) k = 0 := fun k => by rw [nval_top (f := fun _ => 0) (k := 0) (Nat.zero_le _) (fun _ _ _ => rfl)]; rfl
      refine ⟨32 * n, fun _ => 0, fun _ => 0, Nat.le_refl _, by congr 1, by simp, by simp, ?_, ?_, Mem.out⟩
      · rw [z0, hz, Nat.zero_mod]
      · rw [z0, hz, Nat.zero_div, Nat.zero_mul]
    case round =>
      obtain ⟨k, Q, R, hk, rfl, hQ, hR, hvR, hvQ, mem⟩ := hrel
      have HQ := Lib.hid hQ
      have HR := Lib.hid hR
      have HvR := Lib.hid hvR
      have HvQ := Lib.hid hvQ
      have MemR := Lib.hid mem
      clear hQ hR hvR hvQ
      by_cases hk0 : k = 0
      · have q6 : ¬ (0 : Int) ≤ (k : Int) - 1 := by omega
        have h1 : nval R (m1 + 1) = N % D := by have := HvR.out; rwa [hk0, Nat.pow_zero, Nat.div_one] at this
        have h2 : nval Q n = N / D := by have := HvQ.out; rwa [hk0, Nat.pow_zero, Nat.div_one, Nat.mul_one] at this
        have wq := mem.q.Ws HQ.out (by have := mem.o2; have := mem.o3; omega)
        have wr' := mem.r.Ws HR.out mem.o3
        have H1 := Lib.hid h1
        have H2 := Lib.hid h2
        have Wr := Lib.hid wr'
        have Wq := Lib.hid wq
        have Hl := Lib.hid mem.l
        clear hk0 h1 h2 mem wq wr'
        go_wp2_with fail
        refine (trim_walk _ _ _ _ Wq.out (by omega)).mono ?_
        rintro e w2 ⟨v2, n2, rfl, hn2, hw2, hnv2, htr2, rfl⟩
        go_wp2_with fail
        refine (trim_walk _ _ _ _ Wr.out (by omega)).mono ?_
        rintro e w3 ⟨v3, n3, rfl, hn3, hw3, hnv3, htr3, rfl⟩
        go_wp2
        refine bodyPost_ret (v := .tuple #[v2, v3]) (by simp [results, Tryd.results33, go_sem]) rfl ⟨.inr ⟨Nat.ne_of_gt HDp.out, v2, v3, rfl, ⟨n2, Q, hn2, hw2, by rw [hnv2]; exact H2.out, htr2⟩, ⟨n3, R, by omega, hw3, by rw [hnv3]; exact H1.out, htr3⟩⟩, Hl.out⟩
      · obtain ⟨i, hki⟩ : ∃ i, k = i + 1 := ⟨k - 1, by omega⟩
        obtain ⟨wi, hwi⟩ : ∃ x, x = i / 32 := ⟨_, rfl⟩
        obtain ⟨ri, hri⟩ : ∃ x, x = i % 32 := ⟨_, rfl⟩
        have q6 : (0 : Int) ≤ (k : Int) - 1 := by omega
        have e1 : ((k : Int) - 1) / 32 = (wi : Int) := by omega
        have e2 : ((k : Int) - 1).tdiv 32 = (wi : Int) := by rw [Int.tdiv_eq_ediv_of_nonneg (by omega)]; omega
        have e3 : ((k : Int) - 1).tmod 32 = (ri : Int) := by rw [Int.tmod_eq_emod_of_nonneg (by omega)]; omega
        have hwn : wi < n := by omega
        have q7 : (wi : Int) < (n : Int) := by omega
        have hr32 : ri < 32 := by omega
        have q8 : IntKind.u64.wrap (ri : Int) = (ri : Int) := wrap_u64 (by omega)
        obtain ⟨ga, ofa, rfl, hga, hxa⟩ := Oa.out (by omega)
        have ca1 : wr.cell? ⟨ga, ofa + wi, none⟩ = some (.int .u32 (f wi : Nat)) := by rw [mem.l.cell (p := ⟨ga, ofa + wi, none⟩) hga]; exact hxa wi hwn
        obtain ⟨bit, hbit⟩ : ∃ x, x = N / 2 ^ i % 2 := ⟨_, rfl⟩
        have o1 : bits BinOp.and IntKind.u32 ((f wi : Int) / 2 ^ ri) 1 = (bit : Int) := by
          rw [and_bit (Hf.out wi)]
          have h1 : f wi = w32 N wi := by rw [HN.out, w32_val n Hf.out wi hwn]
          rw [h1, bit_word N wi ri hr32, hbit, show 32 * wi + ri = i by omega]
        have hb1 : bit ≤ 1 := by omega
        have Hi := Lib.hid (show k = i + 1 ∧ i = 32 * wi + ri by omega)
        have Hbit := Lib.hid hbit
        clear hki hwi hri hbit hxa mem hk0
        go_wp2
        go_loopw [9, 47] (ShRel n m1 Bq Br bit Q R w1) (fun _ z _ => m1 + 1 - (intOf z).toNat)
        case atStart => exact ⟨0, bit, R, Nat.zero_le _, rfl, rfl, hb1, HR.out, fun _ _ => rfl, by simp [nval], MemR.out⟩
        case round =>
          clear o1 ca1
          obtain ⟨j, c, F, hjm, rfl, rfl, hc, hF, hFR, hvF, mem⟩ := hrel
          have HF := Lib.hid hF
          have HFR := Lib.hid hFR
          have HvF := Lib.hid hvF
          have MemF := Lib.hid mem
          clear hF hFR hvF
          by_cases hj : j < m1 + 1
          · have q9 : (j : Int) < (m1 : Int) + 1 := by omega
            have c1 := mem.r.cell j hj
            have f1 := mem.r.free j hj
            have Fl := HF.out j
            obtain ⟨top, htop⟩ : ∃ x, x = F j / 2147483648 := ⟨_, rfl⟩
            obtain ⟨lo2, hlo2⟩ : ∃ x, x = 2 * F j % 4294967296 := ⟨_, rfl⟩
            have s1 : (F j : Int) / 2147483648 = (top : Int) := by omega
            have s2 : IntKind.u32.wrap ((F j : Nat) * 2 : Int) = (lo2 : Int) := by rw [IntKind.wrap_u32]; omega
            have o2 : bits BinOp.or IntKind.u32 (lo2 : Int) (c : Int) = ((lo2 + c : Nat) : Int) := by rw [hlo2]; exact or_low (F j) hc
            obtain ⟨nw, hnw⟩ : ∃ x, x = lo2 + c := ⟨_, rfl⟩
            rw [← hnw] at o2
            have Hn := Lib.hid (show nw < 2 ^ 32 ∧ top ≤ 1 ∧ nw + top * 2 ^ 32 = 2 * F j + c by omega)
            clear Fl htop hlo2 hnw mem
            go_wp2
            go_roundw
            case rel =>
              refine ⟨j + 1, top, upd F j nw, by omega, by go_num, rfl, Hn.out.2.1, upd_lt HF.out Hn.out.1, ?_, ?_, MemF.out.setR hj⟩
              · intro t ht; rw [upd_ne _ (by omega)]; exact HFR.out t (by omega)
              · have h1 := HvF.out
                have h2 := HFR.out j (Nat.le_refl _)
                have h3 := Hn.out.2.2
                have h4 := congrArg (· * 2 ^ (32 * j)) h3
                simp only [Nat.add_mul, Nat.mul_assoc] at h4
                rw [nval_upd, pow_succ32]
                simp only [nval]
                rw [← h2, Nat.mul_add]
                have h5 : 2 * (F j * 2 ^ (32 * j)) = 2 * F j * 2 ^ (32 * j) := by rw [Nat.mul_assoc]
                omega
            case measure => simp [intOf]; omega
          · have q9 : ¬ (j : Int) < (m1 : Int) + 1 := by omega
            have hjm' : j = m1 + 1 := by omega
            obtain ⟨X, hX⟩ : ∃ X, X = nval F (m1 + 1) := ⟨_, rfl⟩
            have hRD : nval R (m1 + 1) < D := by rw [HvR.out]; exact Nat.mod_lt _ HDp.out
            have hDl : D < 2 ^ (32 * m1) := by rw [← HD1.out]; exact nval_lt m1 (fun i _ => Hw1.out.small i)
            have hXv : X = 2 * (N / 2 ^ (i + 1) % D) + N / 2 ^ i % 2 := by
              have h1 := HvF.out
              rw [hjm', ← hX, pow_succ32] at h1
              rw [← Hi.out.1, ← HvR.out, ← Hbit.out]
              rcases (show c = 0 ∨ c = 1 by omega) with h | h
              · rw [h] at h1; omega
              · rw [h] at h1; omega
            have hqr := qr_step (A := N) (B := D) (k := i) HDp.out
            simp only [← hXv] at hqr
            have Hqr := Lib.hid hqr
            have HX := Lib.hid hX
            obtain ⟨cc, hcc⟩ : ∃ c, c = cmpU X D := ⟨_, rfl⟩
            have Hcc := Lib.hid hcc
            have HQv := Lib.hid (show nval Q n = N / 2 ^ (i + 1) / D * 2 ^ (i + 1) by rw [← Hi.out.1]; exact HvQ.out)
            have q10 : ((m1 : Int) + 1).toNat = m1 + 1 := by omega
            have WR := Lib.hid (mem.r.Ws HF.out mem.o3)
            have WB := Lib.hid (Hw1.out.below mem.l)
            have hszr := mem.l.size
            clear hX hXv hqr hcc hRD hDl mem hjm'
            by_cases hle : D ≤ X
            · have q11 : (0 : Int) ≤ cc := by rw [Hcc.out]; exact (cmpU_ge' X D).2 hle
              have Hle := Lib.hid hle
              clear hle
              go_wp2_with (first
                | (go_at_call 25; refine (ncmp_walk _ _ (m1 + 1) m1 F g _ WR.out WB.out (by omega) (by omega)).mono ?_; rintro e w3 ⟨rfl, hb3⟩; rw [HD1.out, ← HX.out, ← Hcc.out])
                | (go_at_call 29; refine (minusF_walk _ _ (m1 + 1) m1 F g _ (WR.out.below hb3) (WB.out.below hb3) (by omega) (by omega)).mono ?_; rintro e w4 ⟨hpost, hb4⟩; rw [HD1.out, ← HX.out] at hpost; obtain ⟨hbad, _⟩ | ⟨_, v4, rfl, ⟨n2, h, hn2, hw4, hv4, ht4⟩, hfr⟩ := hpost; (exact absurd hbad (Nat.not_lt.2 Hle.out))))
              obtain ⟨A4, c4, rfl, o4⟩ := hw4.open_
              have Hh := Lib.hid hw4.small
              have O4 := Lib.hid o4
              have Hn2 := Lib.hid (show n2 ≤ m1 + 1 ∧ nval h n2 = X - D from ⟨hn2, hv4⟩)
              have hn2I : (n2 : Int) ≤ (m1 : Int) + 1 := by omega
              have Hfr := Lib.hid hfr
              have Mem4 := Lib.hid ((MemF.out.below hb3).below hb4)
              have hBr3 : Br < w3.heap.size := Nat.lt_of_lt_of_le MemF.out.o3 hb3.size
              have HQw := Lib.hid (word_low HQ.out hwn hr32 (by rw [HQv.out, Hi.out.2]))
              clear hw4 o4 hn2 hv4 hfr hb3 hb4 WR WB ht4
              go_loopw [79] (CpRel n m1 Bq Br n2 Q h w1 w4) (fun z _ => m1 + 1 - (intOf z).toNat)
              case atStart => exact ⟨0, F, Nat.zero_le _, rfl, HF.out, fun t ht => absurd ht (by omega), fun _ _ => rfl, Mem4.out⟩
              case round =>
                obtain ⟨j', G, hjm', rfl, hG, hGp, hsame, mem⟩ := hrel
                have HG := Lib.hid hG
                have HGp := Lib.hid hGp
                have HS := Lib.hid hsame
                have MemG := Lib.hid mem
                clear hG hGp hsame
                by_cases hj2 : j' < m1 + 1
                · have r1 : (j' : Int) < (m1 : Int) + 1 := by omega
                  have f1 := mem.r.free j' hj2
                  have c1 := mem.r.cell j' hj2
                  clear mem
                  by_cases hj3 : j' < n2
                  · have r2 : (j' : Int) < (n2 : Int) := by omega
                    obtain ⟨g4, of4, rfl, hg4, hx4⟩ := O4.out (by omega)
                    have hne : g4 ≠ Br := by have := Hfr.out g4 of4 n2 c4 rfl; omega
                    have hne' : Br ≠ g4 := fun e => hne e.symm
                    have c2 : wr.cell? ⟨g4, of4 + j', none⟩ = some (.int .u32 (h j' : Nat)) := by rw [HS.out ⟨g4, of4 + j', none⟩ hne]; exact hx4 j' hj3
                    clear hx4
                    go_wp2
                    go_roundw
                    case rel =>
                      refine ⟨j' + 1, upd (upd G j' 0) j' (h j'), by omega, by go_num, upd_lt (upd_lt HG.out (by decide)) (Hh.out j'), ?_, ?_, (MemG.out.setR (v := 0) hj2).setR hj2⟩
                      · intro t ht
                        rcases Nat.eq_or_lt_of_le (Nat.le_of_lt_succ ht) with e | e
                        · rw [e, upd_same]; unfold padw; rw [if_pos hj3]
                        · rw [upd_ne _ (by omega), upd_ne _ (by omega)]; exact HGp.out t e
                      · intro a ha
                        rw [World.cell?_setCell_far _ _ _ _ (fun e => ha e.symm), World.cell?_setCell_far _ _ _ _ (fun e => ha e.symm)]; exact HS.out a ha
                    case measure => simp [intOf]; omega
                  · have r2 : ¬ (j' : Int) < (n2 : Int) := by omega
                    go_wp2
                    go_roundw
                    case rel =>
                      refine ⟨j' + 1, upd G j' 0, by omega, by go_num, upd_lt HG.out (by decide), ?_, ?_, MemG.out.setR (v := 0) hj2⟩
                      · intro t ht
                        rcases Nat.eq_or_lt_of_le (Nat.le_of_lt_succ ht) with e | e
                        · rw [e, upd_same]; unfold padw; rw [if_neg hj3]
                        · rw [upd_ne _ (by omega)]; exact HGp.out t e
                      · intro a ha
                        rw [World.cell?_setCell_far _ _ _ _ (fun e => ha e.symm)]; exact HS.out a ha
                    case measure => simp [intOf]; omega
                · have r1 : ¬ (j' : Int) < (m1 : Int) + 1 := by omega
                  have hvG : nval G (m1 + 1) = X - D := by
                    rw [nval_congr (g := padw h n2) (m1 + 1) (fun t ht => HGp.out t (by omega)), nval_pad h Hn2.out.1]; exact Hn2.out.2
                  have HvG := Lib.hid hvG
                  have c5 := mem.q.cell wi hwn
                  have f5 := mem.q.free wi hwn
                  have o3 := or_top HQw.out hr32 (HQ.out wi)
                  obtain ⟨nq, hnq⟩ : ∃ x, x = Q wi + 2 ^ ri := ⟨_, rfl⟩
                  rw [← hnq] at o3
                  obtain ⟨o3, hnl⟩ := o3
                  rw [IntKind.wrap_u32] at o3
                  have Hnq := Lib.hid hnq
                  have Hnl := Lib.hid hnl
                  clear hvG hnq hnl mem
                  go_wp2
                  go_roundw
                  case rel =>
                    have hq := Hqr.out.1 Hle.out
                    refine ⟨i, upd Q wi nq, G, by have := Hi.out.1; omega, ?_, upd_lt HQ.out Hnl.out, HG.out, ?_, ?_, MemG.out.setQ hwn⟩
                    · have := Hi.out.1; go_num
                    · rw [HvG.out]; exact hq.1.symm
                    · have h2 := nval_upd_at Q nq hwn
                      rw [Hnq.out, Nat.add_mul, ← Nat.pow_add, show ri + 32 * wi = i by have := Hi.out.2; omega] at h2
                      rw [hq.2]
                      have h3 := HQv.out
                      rw [Nat.pow_succ] at h3
                      rw [Hnq.out]
                      have h4 : N / (2 ^ i * 2) / D * (2 ^ i * 2) = 2 * (N / (2 ^ i * 2) / D) * 2 ^ i := by
                        generalize N / (2 ^ i * 2) / D = q
                        rw [Nat.mul_comm 2 q, Nat.mul_assoc, Nat.mul_comm 2]
                      rw [h4] at h3
                      rw [Nat.pow_succ, Nat.add_mul, Nat.one_mul]
                      omega
                  case measure => simp [intOf]; omega
            · have q11 : ¬ (0 : Int) ≤ cc := by rw [Hcc.out]; exact fun h => hle ((cmpU_ge' X D).1 h)
              have Hlt := Lib.hid (show X < D by omega)
              clear hle
              go_wp2_with (go_at_call 25; refine (ncmp_walk _ _ (m1 + 1) m1 F g _ WR.out WB.out (by omega) (by omega)).mono ?_; rintro e w3 ⟨rfl, hb3⟩; rw [HD1.out, ← HX.out, ← Hcc.out])
              go_roundw
              case rel =>
                have hq := Hqr.out.2 Hlt.out
                refine ⟨i, Q, F, by have := Hi.out.1; omega, ?_, HQ.out, HF.out, ?_, ?_, MemF.out.below hb3⟩
                · have := Hi.out.1; go_num
                · rw [← HX.out]; exact hq.1.symm
                · rw [HQv.out, hq.2]
                  generalize N / 2 ^ (i + 1) / D = q
                  rw [Nat.pow_succ, Nat.mul_comm 2 q, Nat.mul_assoc, Nat.mul_comm 2]
              case measure => simp [intOf]; omega
end Go.Proofs.YtomhbggfdjooaaaDoor
