/- The law ShaPieces, walked from its box. -/
import Derived.Test.YtjemgoifemdoeaaHu
import Derived.Test.YtjemgoifemdoeaaHeqA
import Derived.Test.YtjemgoifemdoeaaAP
namespace Go.Proofs.Ytjemgoifemdoeaa
open Go.RowKit

theorem wpList_append_bys_g {ops : Array Oper} {rest : List Oper} {o : Oper} {a : Act} {w : World} {Q : Exit → Act → World → Prop} (hgd : Region.wanted o (yielded ops a.tmps) = true) (s x : Operand)
    (ho : o.op = .call { callee := .builtin .append, args := #[s, x], argTypes := #[22, 22] })
    (base : Nat) (v : Value) (n : Nat) (xs : List Value) (hs : a.eval s = v) (hown : w.ownsRow base 5 1 v n xs) (A : Option Addr) (m c : Nat) (f : Nat → Nat) (hx : a.eval x = .slice A m c) (hsl : Sl w A m f) (hz : A = none → m = 0 ∧ c = 0) (hn : n + m ≤ 2 ^ 40) (hbase : base ≤ w.heap.size)
    (h : ∀ v' w', w'.ownsRow base 5 1 v' (n + m) (xs ++ bys f m) → w.grownBy w' v.ownBlock → wpList Try.prog ops Q rest (a.put o.dst v') w') : wpList Try.prog ops Q (o :: rest) a w :=
  BigFrame.wpList_want hgd fun _ hK => wp_append_bys s x ho base v n xs hs hown A m c f hx hsl hz hn hbase fun v' w' h2 h3 => hK _ _ (h v' w' h2 h3)
theorem sh_made0 (w : World) : (w.alloc (.cells #[] 5)).ownsRow w.heap.size 5 1 (.slice (some ⟨w.heap.size, 0, none⟩) 0 0) 0 [] := World.ownsRow_made w #[] 0 (Nat.le_refl _) (Nat.zero_le _) (by simp)
theorem head_any {A : Option Addr} {n c k : Nat} (hk : k ≤ c) (w : World) : (Instr.sliceAt 22 (.slice A n c) none (some (.int .i64 (k : Nat))) none).run Try.prog w = .ok (.slice A k c) w := by
  have hu : Try.prog.underlying 22 = some (.slice (Try.prog.elem 22)) := by kernel_rfl
  have he : Try.prog.elem 22 = 5 := by kernel_rfl
  rw [run_sliceAt_slice w _ _ _ _ _ hu, run_slice_h w _ _ _ _ hu _ _ (by omega) (by omega), he, Try.sizeOf5]
  simp only [Result.andThen_ok, sliced, Nat.zero_mul, Nat.sub_zero, Int.toNat_natCast]
  have e : A.map (fun x => x.add 0) = A := by
    cases A with
    | none => rfl
    | some a => simp [Addr.add]
  rw [e, ite_self]
theorem StAt.congr {w : World} {sp L : Nat} {g g' : Nat → Nat} (h : StAt w sp g L) (e : ∀ i, i < L → g i = g' i) : StAt w sp g' L := by
  obtain ⟨b, q1, q2, q3⟩ := h.ex
  exact ⟨b, by rw [q1, hashN_congr (L / 64) fun i hi => e i (by omega)], q2, fun i hi => by rw [q3 i hi]; exact e _ (by omega)⟩
/-- the first D bytes are written; R: what is left -/
structure PcAt (w wr : World) (sp n0 c0 : Nat) (f0 : Nat → Nat) (D : Nat) (R : Option Addr) : Prop where
  le : D ≤ n0
  sl : Sl wr R (n0 - D) (fun i => f0 (D + i))
  ap : 0 < n0 - D → ∀ a, R = some a → a.block < w.heap.size
  st : StAt wr sp f0 D
  bel : Below w.heap.size w wr
theorem cutA_lt {A : Option Addr} {c k p : Nat} (h : ∀ a, A = some a → a.block < p) : ∀ a, cutA A c k = some a → a.block < p := by
  intro a ha
  unfold cutA at ha
  split at ha
  · exact h a ha
  · cases A with
    | none => cases ha
    | some b =>
      cases ha
      have := h b rfl
      unfold Addr.add
      split <;> exact this
theorem cat_part {f : Nat → Nat} {D m : Nat} : ∀ i, i < D + m → cat f D (fun i => f (D + i)) i = f i := fun i _ => by
  unfold cat
  by_cases h : i < D
  · rw [if_pos h]
  · rw [if_neg h]
    show f (D + (i - D)) = f i
    congr 1; omega
theorem PcAt.more {w wr w4 : World} {sp n0 c0 D m : Nat} {f0 : Nat → Nat} {R : Option Addr} (h : PcAt w wr sp n0 c0 f0 D R) (hn : n0 ≤ c0) (hm : m ≤ n0 - D) (hsp : w.heap.size ≤ sp) (hs : StAt w4 sp (cat f0 D (fun i => f0 (D + i))) (D + m)) (ho : Only sp wr w4) :
    PcAt w w4 sp n0 c0 f0 (D + m) (cutA R (c0 - D) m) := by
  have hle := h.le
  refine ⟨by omega, ?_, fun h0 => cutA_lt (h.ap (by omega)), hs.congr cat_part, ho.below h.bel hsp (Nat.le_refl _)⟩
  have h1 := (h.sl.cut (k := m) (c := c0 - D) (by omega)).only ho (fun h0 a ha => by have := cutA_lt (h.ap (by omega)) a ha; omega)
  have e : (fun i => f0 (D + m + i)) = fun i => f0 (D + (m + i)) := by funext i; rw [Nat.add_assoc]
  rw [e, show n0 - (D + m) = n0 - D - m by omega]; exact h1
theorem own_sl2 {w : World} {B n : Nat} {v : Value} {f : Nat → Nat} (h : w.ownsRow B 5 1 v n (bys f n)) (hs : ∀ i, f i < 256) : ∃ A c, v = .slice A n c ∧ Sl w A n f ∧ n ≤ c ∧ c ≤ 9223372036854775807 := by
  obtain ⟨A, c, hv, hsl, hz⟩ := own_sl h hs
  refine ⟨A, c, hv, hsl, ?_⟩
  rcases h.2 with ⟨h1, h2⟩ | ⟨g, cap, cur, h1, _, _, hn, hm, _⟩
  · rw [hv] at h1
    injection h1 with e1 e2 e3
    omega
  · rw [hv] at h1
    injection h1 with e1 e2 e3
    unfold maxLen at hm
    omega
/-- what the law holds of both states -/
structure PsAt (w z : World) (sp cp n0 n2 : Nat) (A0 A2 : Option Addr) (f0 f2 G : Nat → Nat) : Prop where
  s : StAt z sp f0 n0
  c : StAt z cp G (n0 + n2)
  b : Sl z A0 n0 f0
  m : Sl z A2 n2 f2
  bel : Below w.heap.size w z
theorem PsAt.below {w z z' : World} {sp cp n0 n2 : Nat} {A0 A2 : Option Addr} {f0 f2 G : Nat → Nat} (h : PsAt w z sp cp n0 n2 A0 A2 f0 f2 G) (hb : Below z.heap.size z z') : PsAt w z' sp cp n0 n2 A0 A2 f0 f2 G :=
  ⟨h.s.below hb, h.c.below hb, h.b.below hb, h.m.below hb, h.bel.trans (hb.mono h.bel.size)⟩
set_option maxRecDepth 100000 in
set_option maxHeartbeats 4000000 in
theorem shaPieces_walk (A0 A1 A2 : Option Addr) (n0 c0 n1 c1 n2 c2 : Nat) (f0 f1 f2 : Nat → Nat) (w : World) (hl0 : Sl w A0 n0 f0) (hl1 : Sl w A1 n1 f1) (hl2 : Sl w A2 n2 f2) (hz0 : A0 = none → n0 = 0 ∧ c0 = 0) (hz2 : A2 = none → n2 = 0 ∧ c2 = 0) (hnc0 : n0 ≤ c0 ∧ c0 ≤ 9223372036854775807) (hnc2 : n2 ≤ c2 ∧ c2 ≤ 9223372036854775807) :
    Calls Try.prog 4 #[.slice A0 n0 c0, .slice A1 n1 c1, .slice A2 n2 c2] w fun e w' => e = .returned (.bool true) ∧ Below w.heap.size w w' := by
  have HLv := Lib.hid (fun w => lives05_walk w)
  by_cases h0 : 2000 < n0
  · have p1 : (2000 : Int) < n0 := by omega
    go_enter Try.func4, Try.ntmps4
    go_wp2_with (go_at_call 15; (with_reducible refine (HLv.out _).mono ?_); rintro e w9 ⟨rfl, hb9⟩)
    go_ret
    exact ⟨rfl, hb9⟩
  have p1 : ¬ (2000 : Int) < n0 := by omega
  by_cases h1 : 60 < n1
  · have p2 : (60 : Int) < n1 := by omega
    go_enter Try.func4, Try.ntmps4
    go_wp2_with (go_at_call 15; (with_reducible refine (HLv.out _).mono ?_); rintro e w9 ⟨rfl, hb9⟩)
    go_ret
    exact ⟨rfl, hb9⟩
  have p2 : ¬ (60 : Int) < n1 := by omega
  by_cases h2 : 200 < n2
  · have p3 : (200 : Int) < n2 := by omega
    go_enter Try.func4, Try.ntmps4
    go_wp2_with (go_at_call 15; (with_reducible refine (HLv.out _).mono ?_); rintro e w9 ⟨rfl, hb9⟩)
    go_ret
    exact ⟨rfl, hb9⟩
  have p3 : ¬ (200 : Int) < n2 := by omega
  have hc0 : c0 ≤ 9223372036854775807 := hnc0.2
  have hc2 : c2 ≤ 9223372036854775807 := hnc2.2
  have hn0 : n0 ≤ c0 := hnc0.1
  have hn2 : n2 ≤ c2 := hnc2.1
  have HN := Lib.hid (new_walk f0 w)
  have HL0 := Lib.hid hl0
  have HL1 := Lib.hid hl1
  have HL2 := Lib.hid hl2
  have HZ0 := Lib.hid hz0
  have HZ2 := Lib.hid hz2
  have HS1 := Lib.hid hl1.small
  clear hl0 hl1 hl2 hz0 hz2 hnc0 hnc2
  go_enter Try.func4, Try.ntmps4
  go_wp2_with (go_at_call 23; (with_reducible refine HN.out.mono ?_); rintro e w1 ⟨sp, rfl, hsp, hst, hb1⟩; have HSP := Lib.hid hsp; have HST := Lib.hid hst; have HB1 := Lib.hid hb1; clear hsp hst hb1)
  go_loopw [8, 31] (fun v i wr => ∃ k D : Nat, ∃ R : Option Addr, k ≤ n1 ∧ i = .int .i64 (k : Nat) ∧ v = .slice R (n0 - D) (c0 - D) ∧ PcAt w wr sp n0 c0 f0 D R) (fun _ i _ => n1 - (intOf i).toNat)
  case atStart =>
    refine ⟨0, 0, A0, by omega, rfl, rfl, by omega, ?_, ?_, HST.out, HB1.out⟩
    · have h := HL0.out.below HB1.out
      have e : (fun i => f0 (0 + i)) = f0 := by funext i; rw [Nat.zero_add]
      rw [e]; exact h
    · intro h a ha
      obtain ⟨g, o, e, hg, _⟩ := HL0.out.at_ h
      rw [e] at ha; cases ha; exact hg
  case round =>
    obtain ⟨k, D, R, hk, rfl, rfl, hp⟩ := hrel
    have HP := Lib.hid hp
    have hD := hp.le
    obtain ⟨n', en⟩ : ∃ n', n' = n0 - D := ⟨_, rfl⟩
    obtain ⟨c', ec⟩ : ∃ c', c' = c0 - D := ⟨_, rfl⟩
    have hn' : n' ≤ 2000 := by omega
    have hnc' : n' ≤ c' := by omega
    have hc' : c' ≤ 9223372036854775807 := by omega
    rw [← en, ← ec]
    have HEN := Lib.hid en
    have HEC := Lib.hid ec
    by_cases hlt : k < n1
    · have p4 : (k : Int) < n1 := by omega
      obtain ⟨gb, ob, eA, hgb, hcb⟩ := (HL1.out.below hp.bel).at_ (by omega)
      have y1 := hcb k hlt
      subst eA
      obtain ⟨x, ex⟩ : ∃ x, x = f1 k := ⟨_, rfl⟩
      rw [← ex] at y1
      have hx : x < 256 := by rw [ex]; exact HS1.out k
      obtain ⟨m, em⟩ : ∃ m, m = Nat.min x n' := ⟨_, rfl⟩
      have hm : m ≤ n' := by rw [em]; exact Nat.min_le_right _ _
      have hhd := head_any (A := R) (n := n') (c := c') (k := m) (by omega)
      have hct := cut_run (A := R) (n := n') (c := c') (k := m) hm
      have hsl : Sl wr R n' (fun i => f0 (D + i)) := by rw [en]; exact hp.sl
      have HW := Lib.hid (live_write wr sp D m c' R (fun i => f0 (D + i)) f0 (hsl.head hm) (by omega) (by omega) (fun h0 a ha => by have := hp.ap (by omega) a ha; have := HSP.out; omega) hp.st (by omega))
      have HSl := Lib.hid hsl
      clear hcb hp en ec ex hsl
      by_cases hxn : n' < x
      · have p5 : (n' : Int) < x := by omega
        obtain rfl : m = n' := by rw [em]; exact Nat.min_eq_right (by omega)
        clear em
        go_wp2_with (go_at_call 24; (with_reducible refine HW.out.mono ?_); rintro e w4 ⟨rfl, hs4, ho4⟩; have HS4 := Lib.hid hs4; have HO4 := Lib.hid ho4; clear hs4 ho4)
        exact ⟨⟨k + 1, D + m, cutA R c' m, by omega, by simp, by rw [show n0 - (D + m) = 0 by have := HEN.out; omega, show c0 - (D + m) = c' - m by have := HEC.out; omega], by rw [HEC.out]; exact HP.out.more hn0 (by have := HEN.out; omega) HSP.out HS4.out HO4.out⟩, by simp [intOf]; omega⟩
      · have p5 : ¬ (n' : Int) < x := by omega
        obtain rfl : m = x := by rw [em]; exact Nat.min_eq_left (by omega)
        clear em
        go_wp2_with (go_at_call 24; (with_reducible refine HW.out.mono ?_); rintro e w4 ⟨rfl, hs4, ho4⟩; have HS4 := Lib.hid hs4; have HO4 := Lib.hid ho4; clear hs4 ho4)
        exact ⟨⟨k + 1, D + m, cutA R c' m, by omega, by simp, by rw [show n0 - (D + m) = n' - m by have := HEN.out; omega, show c0 - (D + m) = c' - m by have := HEC.out; omega], by rw [HEC.out]; exact HP.out.more hn0 (by have := HEN.out; omega) HSP.out HS4.out HO4.out⟩, by simp [intOf]; omega⟩
    · obtain rfl : k = n1 := by omega
      have p4 : ¬ (k : Int) < k := by omega
      have HW := Lib.hid (live_write wr sp D n' c' R (fun i => f0 (D + i)) f0 (by rw [en]; exact hp.sl) (by omega) (by omega) (fun h0 a ha => by have := hp.ap (by omega) a ha; have := HSP.out; omega) hp.st (by omega))
      clear hp en ec
      go_wp2_with fail
      refine HW.out.mono ?_
      rintro e w4 ⟨rfl, hs4, ho4⟩
      have HS4 := Lib.hid (show StAt w4 sp f0 n0 by
        have h := hs4.congr cat_part
        rw [show D + n' = n0 by have := HEN.out; omega] at h; exact h)
      have HB4 := Lib.hid (ho4.below HP.out.bel HSP.out (Nat.le_refl _))
      clear hs4 ho4 HW HP
      have HC := Lib.hid (live_copy w4 sp n0 f0 HS4.out)
      go_wp2_with fail
      refine HC.out.mono ?_
      rintro e w5 ⟨rfl, hs5, hb5⟩
      have hcp := HS4.out.lt
      have HS5 := Lib.hid (HS4.out.below hb5)
      have HB5 := Lib.hid (HB4.out.trans (hb5.mono HB4.out.size))
      have HW := Lib.hid (live_write w5 w4.heap.size n0 n2 c2 A2 f2 f0 (HL2.out.below HB5.out) hn2 (by omega) (fun h0 a ha => by
        obtain ⟨g, o, e, hg, _⟩ := HL2.out.at_ h0
        rw [e] at ha; cases ha
        have := HB4.out.size
        show g ≠ w4.heap.size; omega) hs5 (by omega))
      clear hs5 hb5
      go_wp2_with fail
      refine HW.out.mono ?_
      rintro e w6 ⟨rfl, hs6, ho6⟩
      have HS6 := Lib.hid (HS5.out.only ho6 (by omega))
      have HC6 := Lib.hid hs6
      have HB6 := Lib.hid (ho6.below HB5.out (HB4.out.size) (Nat.le_refl _))
      obtain ⟨cp, ecp⟩ : ∃ cp, cp = w4.heap.size := ⟨_, rfl⟩
      clear hs6 ho6 HW HC
      rw [← ecp] at HC6 ⊢
      have hne : sp ≠ cp := by omega
      have HCP := Lib.hid (show w.heap.size ≤ cp by rw [ecp]; exact HB4.out.size)
      clear ecp hcp HS5 HB5 HB4 HS4
      obtain ⟨G, eG⟩ : ∃ G, G = cat f0 n0 f2 := ⟨_, rfl⟩
      have hGl : ∀ i, G i < 256 := fun i => by rw [eG]; exact cat_lt HL0.out.small HL2.out.small i
      rw [← eG] at HC6
      have HG := Lib.hid eG
      have P6 := Lib.hid (show PsAt w w6 sp cp n0 n2 A0 A2 f0 f2 G from ⟨HS6.out, HC6.out, HL0.out.below HB6.out, HL2.out.below HB6.out, HB6.out⟩)
      have HSa := Lib.hid (fun z (h : PsAt w z sp cp n0 n2 A0 A2 f0 f2 G) => live_sum z sp n0 f0 h.s (by omega))
      have HSb := Lib.hid (fun z (h : PsAt w z sp cp n0 n2 A0 A2 f0 f2 G) => sum_walk z A0 n0 c0 f0 h.b hn0 (by omega) (by omega))
      have HSc := Lib.hid (fun z (h : PsAt w z sp cp n0 n2 A0 A2 f0 f2 G) => live_sum z cp (n0 + n2) G h.c (by omega))
      have HSd := Lib.hid (fun z A c (h : Sl z A (n0 + n2) G) (hc : n0 + n2 ≤ c) (hcm : c ≤ 9223372036854775807) => sum_walk z A (n0 + n2) c G h hc hcm (by omega))
      have hsa : ∀ z, (Op.equalIn 10000 25 (.agg (bys (shaF n0 f0) 32).toArray) (.agg (bys (shaF n0 f0) 32).toArray)).run Try.prog z = .ok true z := fun z => by rw [hash_eq]; simp
      have hsc : ∀ z, (Op.equalIn 10000 25 (.agg (bys (shaF (n0 + n2) G) 32).toArray) (.agg (bys (shaF (n0 + n2) G) 32).toArray)).run Try.prog z = .ok true z := fun z => by rw [hash_eq]; simp
      have hsn : ∀ z, (Op.equalIn 10000 25 (.agg (bys (shaF 0 (fun _ => 0)) 32).toArray) (.agg (bys (shaF 0 (fun _ => 0)) 32).toArray)).run Try.prog z = .ok true z := fun z => by rw [hash_eq]; simp
      have HSn := Lib.hid (fun z (h : StAt z sp (fun _ => 0) 0) => live_sum z sp 0 (fun _ => 0) h (by omega))
      have HSm := Lib.hid (fun z => sum_walk z none 0 0 (fun _ => 0) ⟨fun _ => (by decide : 0 < 256), fun h => absurd h (by omega)⟩ (by omega) (by omega) (by omega))
      obtain ⟨cz, ecz⟩ : ∃ cz, cz = (bys (shaF n0 f0) 32).toArray := ⟨_, rfl⟩
      obtain ⟨cq, ecq⟩ : ∃ cz, cz = (bys (shaF (n0 + n2) G) 32).toArray := ⟨_, rfl⟩
      obtain ⟨cn, ecn⟩ : ∃ cz, cz = (bys (shaF 0 (fun _ => 0)) 32).toArray := ⟨_, rfl⟩
      rw [← ecz] at hsa HSa HSb
      rw [← ecq] at hsc HSc HSd
      rw [← ecn] at hsn HSn HSm
      clear ecz ecq ecn eG hGl HC6 HS6 HB6
      go_wp2_with fail
      refine (HSa.out _ P6.out).mono ?_
      rintro e w7 ⟨rfl, hb⟩
      have P7 := Lib.hid (P6.out.below hb)
      clear hb
      go_wp2_with fail
      refine (HSb.out _ P7.out).mono ?_
      rintro e w8 ⟨rfl, hb⟩
      have P8 := Lib.hid (P7.out.below hb)
      clear hb
      go_wp2_with fail
      refine (HSa.out _ P8.out).mono ?_
      rintro e w9 ⟨rfl, hb⟩
      have P9 := Lib.hid (P8.out.below hb)
      clear hb
      go_wp2_with fail
      refine (HSb.out _ P9.out).mono ?_
      rintro e w10 ⟨rfl, hb⟩
      have P10 := Lib.hid (P9.out.below hb)
      clear hb
      go_wp2_with fail
      refine (live_len _ sp n0 f0 P10.out.s).mono ?_
      rintro e _ ⟨rfl, rfl⟩
      go_wp2_with fail
      refine (HSc.out _ P10.out).mono ?_
      rintro e w11 ⟨rfl, hb⟩
      have P11 := Lib.hid (P10.out.below hb)
      clear hb
      have HM := Lib.hid (sh_made0 w11)
      have HB12 := Lib.hid ((Below.refl w11.heap.size w11).alloc (Nat.le_refl _) (.cells #[] 5))
      go_wp2_with (first
        | (refine wpList_append_bys_g (by rfl) (.tmp 84) (.tmp 85) rfl w11.heap.size v1 n0 (bys f0 n0) (by simp [Act.eval]) HV1.out A2 n2 c2 f2 (by simp [Act.eval]) (P11.out.m.below HX1.out) HZ2.out (by omega) HX1.out.size ?_; intro v2 w13 hv2 hg2; have HX2 := Lib.hid (own_grown HV1.out HX1.out hg2 HX1.out.size); have HV2 := Lib.hid hv2; clear hv2 hg2)
        | (refine wpList_append_bys_g (by rfl) (.tmp 82) (.tmp 83) rfl w11.heap.size _ 0 [] (by simp [Act.eval]) HM.out A0 n0 c0 f0 (by simp [Act.eval]) (P11.out.b.below HB12.out) HZ0.out (by omega) HB12.out.size ?_; intro v1 w12 hv1 hg1; have HX1 := Lib.hid (own_grown HM.out HB12.out hg1 HB12.out.size); have HV1 := Lib.hid (show w12.ownsRow w11.heap.size 5 1 v1 n0 (bys f0 n0) by rw [Nat.zero_add, List.nil_append] at hv1; exact hv1); clear hv1 hg1))
      have hv := HV2.out
      rw [bys_cat, ← HG.out] at hv
      obtain ⟨AA, cc, rfl, hsl, hcc, hcm⟩ := own_sl2 hv (fun i => by rw [HG.out]; exact cat_lt HL0.out.small HL2.out.small i)
      have HD := Lib.hid (HSd.out w13 AA cc hsl hcc hcm)
      have P13 := Lib.hid (P11.out.below HX2.out)
      clear hv hsl hcc hcm
      refine HD.out.mono ?_
      rintro e w14 ⟨rfl, hb⟩
      have P14 := Lib.hid (P13.out.below hb)
      clear hb
      go_wp2_with fail
      refine (live_len _ cp (n0 + n2) G P14.out.c).mono ?_
      rintro e _ ⟨rfl, rfl⟩
      go_wp2_with fail
      refine (live_reset w14 sp n0 f0 (fun _ => 0) P14.out.s).mono ?_
      rintro e w15 ⟨rfl, hs15, ho15⟩
      have S15 := Lib.hid hs15
      have B15 := Lib.hid (ho15.below P14.out.bel HSP.out (Nat.le_refl _))
      clear hs15 ho15
      go_wp2_with fail
      refine (live_len _ sp 0 (fun _ => 0) S15.out).mono ?_
      rintro e _ ⟨rfl, rfl⟩
      go_wp2_with fail
      refine (HSn.out _ S15.out).mono ?_
      rintro e w16 ⟨rfl, hb⟩
      have B16 := Lib.hid (B15.out.trans (hb.mono B15.out.size))
      clear hb
      go_wp2_with fail
      refine (HSm.out _).mono ?_
      rintro e w17 ⟨rfl, hb⟩
      have B17 := Lib.hid (B16.out.trans (hb.mono B16.out.size))
      clear hb
      go_wp2_with fail
      refine (HLv.out _).mono ?_
      rintro e w18 ⟨rfl, hb⟩
      have B18 := Lib.hid (B17.out.trans (hb.mono B17.out.size))
      clear hb
      go_wp2
      go_ret
      exact ⟨rfl, B18.out⟩
end Go.Proofs.Ytjemgoifemdoeaa
