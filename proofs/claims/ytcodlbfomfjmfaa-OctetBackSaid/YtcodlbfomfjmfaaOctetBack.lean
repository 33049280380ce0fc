/- The law OctetBack, walked. -/
import Derived.Test.YtcodlbfomfjmfaaOBa
namespace Go.Proofs.Ytcodlbfomfjmfaa
open Go.RowKit

/-- the n values that lie in block g from o on -/
structure Vals (w : World) (g o n : Nat) (it : Nat → It) : Prop where
  lt : 0 < n → g < w.heap.size
  k0 : ∀ i, i < n → w.cell? ⟨g, o + i * 7, none⟩ = some (.int .i64 (it i).kd)
  k1 : ∀ i, i < n → w.cell? ⟨g, o + i * 7 + 1, none⟩ = some (.int .i64 (it i).N)
  k2 : ∀ i, i < n → w.cell? ⟨g, o + i * 7 + 2, none⟩ = some (.int .u64 (limb (it i).a 0 : Nat))
  k3 : ∀ i, i < n → w.cell? ⟨g, o + i * 7 + 3, none⟩ = some (.int .u64 (limb (it i).a 1 : Nat))
  k4 : ∀ i, i < n → w.cell? ⟨g, o + i * 7 + 4, none⟩ = some (.int .u64 (limb (it i).a 2 : Nat))
  k5 : ∀ i, i < n → w.cell? ⟨g, o + i * 7 + 5, none⟩ = some (.int .u64 (limb (it i).a 3 : Nat))
  k6 : ∀ i, i < n → w.cell? ⟨g, o + i * 7 + 6, none⟩ = some (.slice (it i).A (it i).m (it i).c)
  sl : ∀ i, i < n → Sl w (it i).A (it i).m (it i).g
  nil : ∀ i, i < n → (it i).A = none → (it i).m = 0 ∧ (it i).c = 0
  big : ∀ i, i < n → (it i).N < 2 ^ 63
  a : ∀ i, i < n → (it i).a < 2 ^ 256
theorem Vals.below {w w' : World} {g o n : Nat} {it : Nat → It} (h : Vals w g o n it) (hb : Below w.heap.size w w') : Vals w' g o n it :=
  ⟨fun hn => Nat.lt_of_lt_of_le (h.lt hn) hb.size, fun i hi => (hb.cell (p := ⟨g, o + i * 7, none⟩) (h.lt (by omega))).trans (h.k0 i hi), fun i hi => (hb.cell (p := ⟨g, o + i * 7 + 1, none⟩) (h.lt (by omega))).trans (h.k1 i hi), fun i hi => (hb.cell (p := ⟨g, o + i * 7 + 2, none⟩) (h.lt (by omega))).trans (h.k2 i hi), fun i hi => (hb.cell (p := ⟨g, o + i * 7 + 3, none⟩) (h.lt (by omega))).trans (h.k3 i hi), fun i hi => (hb.cell (p := ⟨g, o + i * 7 + 4, none⟩) (h.lt (by omega))).trans (h.k4 i hi), fun i hi => (hb.cell (p := ⟨g, o + i * 7 + 5, none⟩) (h.lt (by omega))).trans (h.k5 i hi), fun i hi => (hb.cell (p := ⟨g, o + i * 7 + 6, none⟩) (h.lt (by omega))).trans (h.k6 i hi), fun i hi => (h.sl i hi).below hb, h.nil, h.big, h.a⟩
/-- behind the first k -/
def PutRel (w : World) (n : Nat) (it : Nat → It) (v i : Value) (wr : World) : Prop :=
  ∃ (k T : Nat) (F : Nat → Nat), k ≤ n ∧ i = .int .i64 (k : Nat) ∧ wr.ownsRow w.heap.size 5 1 v T (bys F T) ∧ (∀ i, F i < 256) ∧ Laid it F k T ∧ (∀ j, j < k → (it j).m ≤ 100) ∧ T ≤ k * 110 ∧ Below w.heap.size w wr
/-- behind the first k that were told -/
def GetRel (w : World) (n : Nat) (p : Nat) (A : Option Addr) (T c : Nat) (F pos : Nat → Nat) (i : Value) (wr : World) : Prop :=
  ∃ k : Nat, k ≤ n ∧ i = .int .i64 (k : Nat) ∧ Src wr p A T c F (pos k) 0 ∧ Below w.heap.size w wr
theorem Sl.none0 {w : World} {A : Option Addr} {n : Nat} {f : Nat → Nat} (h : Sl w A n f) : A = none → n = 0 := fun e => Nat.eq_zero_of_not_pos fun hp => by
  obtain ⟨g, o, h1, _⟩ := h.at_ hp
  rw [e] at h1; cases h1
theorem cat_at (F : Nat → Nat) (T : Nat) (g : Nat → Nat) (j : Nat) : cat F T g (T + j) = g j := by
  unfold cat; rw [if_neg (by omega), Nat.add_sub_cancel_left]
theorem cat_lo (F : Nat → Nat) (T : Nat) (g : Nat → Nat) {j : Nat} (h : j < T) : cat F T g j = F j := by unfold cat; rw [if_pos h]
theorem putMore {w w' : World} {n k T T' B : Nat} {it : Nat → It} {F G : Nat → Nat} {v : Value} (hk : k < n) (hv : w'.ownsRow B 5 1 v T' (bys G T')) (hB : w.heap.size ≤ B) (hG : ∀ i, G i < 256) (hL : Laid it F k T) (he : ∀ j, j < T → F j = G j) (hTT : T ≤ T') (ho : One (it k) G T T')
    (hms : ∀ j, j < k → (it j).m ≤ 100) (hm : (it k).m ≤ 100) (hT : T' ≤ (k + 1) * 110) (hb : Below w.heap.size w w') : PutRel w n it v (.int .i64 ((k : Int) + 1)) w' :=
  ⟨k + 1, T', G, hk, by simp, own_base hv hB, hG, hL.more he hTT ho, fun j hj => (Nat.lt_or_eq_of_le (Nat.le_of_lt_succ hj)).elim (hms j) (fun e => by rw [e]; exact hm), hT, hb⟩
theorem one_var {x : It} {F : Nat → Nat} {T c : Nat} (h : x.kd = 0) (hg : Grp x.num c) : One x (cat F T (vb x.num c)) T (T + (c + 1)) := .inl ⟨h, c, hg, rfl, fun _ _ => cat_at _ _ _ _⟩
theorem one_amt {x : It} {F : Nat → Nat} {T : Nat} (h : x.kd = 1) : One x (cat (cat F T (fun _ => cnt x.a)) (T + 1) (ab x.a)) T (T + 1 + cnt x.a) :=
  .inr (.inl ⟨by omega, h, rfl, by rw [cat_lo _ _ _ (by omega)]; exact cat_at F T (fun _ => cnt x.a) 0, fun _ _ => cat_at _ _ _ _⟩)
theorem one_txt {x : It} {F : Nat → Nat} {T c : Nat} (h : x.kd ≠ 0) (h' : x.kd ≠ 1) (hg : Grp x.m c) : One x (cat (cat F T (vb x.m c)) (T + (c + 1)) x.g) T (T + (c + 1) + x.m) :=
  .inr (.inr ⟨h, h', c, hg, rfl, fun j hj => by rw [cat_lo _ _ _ (by omega), cat_at], fun _ _ => cat_at _ _ _ _⟩)
theorem cat2_lo (F : Nat → Nat) (T d : Nat) (g g' : Nat → Nat) {j : Nat} (h : j < T) : F j = cat (cat F T g) (T + d) g' j := by rw [cat_lo _ _ _ (by omega), cat_lo _ _ _ h]
set_option maxRecDepth 100000 in
set_option maxHeartbeats 4000000 in
theorem octetBack_walk (V : Option Addr) (n c : Nat) (it : Nat → It) (w : World) (hv : 0 < n → ∃ g o, V = some ⟨g, o, none⟩ ∧ Vals w g o n it) : Calls Try.prog 7 #[.slice V n c] w fun e w' => e = .returned (.bool true) ∧ Below w.heap.size w w' := by
  have HV := Lib.hid hv
  clear hv
  by_cases hlen : 30 < n
  · have p1 : (30 : Int) < n := by omega
    go_enter Try.func7, Try.ntmps7
    go_wp2_with (go_at_call 42; refine (lives04_walk _).mono ?_; rintro e w9 ⟨rfl, hb9⟩; have HB9 := Lib.hid hb9; clear hb9)
    go_ret
    exact ⟨rfl, HB9.out⟩
  · have p1 : ¬ (30 : Int) < n := by omega
    go_enter Try.func7, Try.ntmps7
    go_wp2
    go_loopw [3, 17] (PutRel w n it) (fun _ i _ => n - (intOf i).toNat)
    case atStart => exact ⟨0, 0, fun _ => 0, Nat.zero_le _, rfl, World.ownsRow_nil _ _ _ _, (fun _ => Nat.zero_lt_succ _), Laid.zero _ _, fun j hj => absurd hj (by omega), by omega, Below.refl _ _⟩
    case round =>
      obtain ⟨k, T, F, hk, rfl, hv, hF, hlaid, hms, hT, hb⟩ := hrel
      obtain ⟨A, cb, rfl, hsl, hz⟩ := own_sl hv hF
      have HSl := Lib.hid hsl
      have HZ := Lib.hid hz
      have HF := Lib.hid hF
      have HL := Lib.hid hlaid
      have HM := Lib.hid hms
      have HB := Lib.hid hb
      clear hsl hz hF hlaid hms hb hv
      by_cases hlt : k < n
      · have p2 : (k : Int) < n := by omega
        obtain ⟨g, o, rfl, hvals⟩ := HV.out (by omega)
        have hvr := hvals.below HB.out
        obtain ⟨X, hX⟩ : ∃ X, X = it k := ⟨_, rfl⟩
        have c0 := hvr.k0 k hlt
        have c1 := hvr.k1 k hlt
        have c2 := hvr.k2 k hlt
        have c3 := hvr.k3 k hlt
        have c4 := hvr.k4 k hlt
        have c5 := hvr.k5 k hlt
        have c6 := hvr.k6 k hlt
        have xs := hvr.sl k hlt
        have xn := hvr.nil k hlt
        have xb := hvr.big k hlt
        have xa := hvr.a k hlt
        have gl := hvr.lt (by omega)
        rw [← hX] at c0 c1 c2 c3 c4 c5 c6 xs xn xb xa
        have HX := Lib.hid hX
        have XS := Lib.hid xs
        have XN := Lib.hid xn
        have XB := Lib.hid xb
        have XA := Lib.hid xa
        clear hvals hvr hX xs xn xb xa
        by_cases hm : 100 < X.m
        · have p3 : (100 : Int) < X.m := by omega
          go_wp2_with (go_at_call 42; refine (lives04_walk _).mono ?_; rintro e w9 ⟨rfl, hb9⟩; have HB9 := Lib.hid hb9; clear hb9)
          go_ret
          exact ⟨rfl, (HB.out.alloc HB.out.size _).trans (HB9.out.mono (by simp only [World.size_alloc]; have := HB.out.size; omega))⟩
        · have p3 : ¬ (100 : Int) < X.m := by omega
          have hal := (Below.refl wr.heap.size wr).alloc (Nat.le_refl _) (.cells #[.int .i64 X.kd, .int .i64 X.N, .int .u64 (limb X.a 0 : Nat), .int .u64 (limb X.a 1 : Nat), .int .u64 (limb X.a 2 : Nat), .int .u64 (limb X.a 3 : Nat), .slice X.A X.m X.c] 65)
          have Hal := Lib.hid hal
          have Has := Lib.hid hal.size
          have HMk := Lib.hid (show (it k).m ≤ 100 from by rw [← HX.out]; omega)
          have Hlt := Lib.hid hlt
          have Hm := Lib.hid hm
          have Hlen := Lib.hid hlen
          have HT := Lib.hid hT
          clear hal hm hT
          by_cases h0 : X.kd = 0
          · have b0 : (X.kd == 0) = true := beq_iff_eq.2 h0
            have H0 := Lib.hid h0
            clear h0
            go_wp2_with fail
            refine (var_walk A T cb F X.N X.num _ (HSl.out.below Hal.out) HZ.out (by have := HT.out; omega) XB.out rfl).mono ?_
            rintro e w1 ⟨⟨v1, k1, rfl, hg, hv1⟩, hb1⟩
            have k9 : k1 < 9 := grp_most hg (num_lt XB.out)
            have Hb1 := Lib.hid (HB.out.trans ((Hal.out.trans (hb1.mono Has.out)).mono HB.out.size))
            have Hv1 := Lib.hid hv1
            have Hg := Lib.hid hg
            clear hb1 hv1 hg
            go_wp2
            refine ⟨putMore Hlt.out Hv1.out (Nat.le_trans HB.out.size Has.out) (cat_small HF.out (vb_small Hg.out)) HL.out (fun j hj => (cat_lo _ _ _ hj).symm) (by omega) (by rw [← HX.out]; exact one_var H0.out Hg.out) HM.out HMk.out (by have := HT.out; omega) Hb1.out, by simp [intOf]; omega⟩
          · have b0 : (X.kd == 0) = false := beq_eq_false_iff_ne.2 h0
            have H0 := Lib.hid h0
            clear h0
            by_cases h1 : X.kd = 1
            · have b1 : (X.kd == 1) = true := beq_iff_eq.2 h1
              have H1 := Lib.hid h1
              clear h1
              go_wp2_with fail
              have h := oamount_walk A T cb F X.a _ XA.out (HSl.out.below Hal.out) HZ.out (by have := HT.out; omega)
              unfold U at h
              refine h.mono ?_
              clear h
              rintro e w1 ⟨⟨v1, rfl, hv1⟩, hb1⟩
              have k9 : cnt X.a ≤ 32 := cnt_le (m := 32) XA.out
              have Hb1 := Lib.hid (HB.out.trans ((Hal.out.trans (hb1.mono Has.out)).mono HB.out.size))
              have Hv1 := Lib.hid hv1
              clear hb1 hv1
              go_wp2
              refine ⟨putMore Hlt.out Hv1.out (Nat.le_trans HB.out.size Has.out) (cat_small (cat_small HF.out (fun _ => by omega)) (ab_small _)) HL.out (fun j hj => cat2_lo _ _ _ _ _ hj) (by omega) (by rw [← HX.out]; exact one_amt H1.out) HM.out HMk.out (by have := HT.out; omega) Hb1.out, by simp [intOf]; omega⟩
            · have b1 : (X.kd == 1) = false := beq_eq_false_iff_ne.2 h1
              have H1 := Lib.hid h1
              clear h1
              go_wp2_with fail
              refine (otext_walk A X.A T cb X.m X.c F X.g _ (HSl.out.below Hal.out) HZ.out (by have := HT.out; omega) (XS.out.below Hal.out) XN.out (by have := Hm.out; omega)).mono ?_
              rintro e w1 ⟨⟨v1, k1, rfl, hg, hv1⟩, hb1⟩
              have k9 : k1 < 9 := grp_most hg (by have := Hm.out; omega)
              have Hb1 := Lib.hid (HB.out.trans ((Hal.out.trans (hb1.mono Has.out)).mono HB.out.size))
              have Hv1 := Lib.hid hv1
              have Hg := Lib.hid hg
              clear hb1 hv1 hg
              go_wp2
              refine ⟨putMore Hlt.out Hv1.out (Nat.le_trans HB.out.size Has.out) (cat_small (cat_small HF.out (vb_small Hg.out)) XS.out.small) HL.out (fun j hj => cat2_lo _ _ _ _ _ hj) (by omega) (by rw [← HX.out]; exact one_txt H0.out H1.out Hg.out) HM.out HMk.out (by have := HT.out; have := Hm.out; omega) Hb1.out, by simp [intOf]; omega⟩
      · obtain rfl : k = n := by omega
        have p2 : ¬ (k : Int) < k := by omega
        obtain ⟨pos, hp0, hpn, hon⟩ := HL.out
        have Hp0 := Lib.hid hp0
        have Hpn := Lib.hid hpn
        have Hon := Lib.hid hon
        clear hp0 hpn hon
        go_wp2_with (go_at_call 51; refine (read_walk A T cb F wr HSl.out HZ.out (by omega)).mono ?_; rintro e w1 ⟨p, A2, c2, rfl, hs1, hp1, hb1⟩; have HS1 := Lib.hid hs1; have HP := Lib.hid (Nat.le_trans HB.out.size hp1); have HB1 := Lib.hid (HB.out.trans (hb1.mono HB.out.size)); clear hs1 hp1 hb1)
        go_loopw [49] (GetRel w k p A2 T c2 F pos) (fun i _ => k - (intOf i).toNat)
        case atStart => exact ⟨0, Nat.zero_le _, rfl, by rw [Hp0.out]; exact HS1.out, HB1.out⟩
        case round =>
          rename World => w2
          obtain ⟨q, hq, rfl, hsq, hbq⟩ := hrel
          have HSq := Lib.hid hsq
          have HBq := Lib.hid hbq
          clear hsq hbq
          by_cases hlt : q < k
          · have p3 : (q : Int) < k := by omega
            obtain ⟨g, o, rfl, hvals⟩ := HV.out (by omega)
            have hvr := hvals.below HBq.out
            have hon := (Hon.out q hlt).2
            have hmq := HM.out q hlt
            have hle := HSq.out.le
            obtain ⟨X, hX⟩ : ∃ X, X = it q := ⟨_, rfl⟩
            have c0 := hvr.k0 q hlt
            have c1 := hvr.k1 q hlt
            have e2 := hvr.k2 q hlt
            have e3 := hvr.k3 q hlt
            have e4 := hvr.k4 q hlt
            have e5 := hvr.k5 q hlt
            have c6 := hvr.k6 q hlt
            have xs := hvr.sl q hlt
            have xn := hvr.nil q hlt
            have xb := hvr.big q hlt
            have xa := hvr.a q hlt
            have gl := hvr.lt (by omega)
            rw [← hX] at c0 c1 e2 e3 e4 e5 c6 xs xn xb xa hon hmq
            have xw := hvals.sl q hlt
            rw [← hX] at xw
            have XW := Lib.hid xw
            clear xw
            have hkn : pos (q + 1) ≤ T := by
              have h := pos_le (fun j hj => (Hon.out j hj).1) (k - (q + 1)) (q + 1) (by omega)
              rw [show q + 1 + (k - (q + 1)) = k by omega, Hpn.out] at h
              exact h
            have hal := (Below.refl w2.heap.size w2).alloc (Nat.le_refl _) (.cells #[.int .i64 X.kd, .int .i64 X.N, .int .u64 (limb X.a 0 : Nat), .int .u64 (limb X.a 1 : Nat), .int .u64 (limb X.a 2 : Nat), .int .u64 (limb X.a 3 : Nat), .slice X.A X.m X.c] 65)
            have HOn := Lib.hid hon
            have HMq := Lib.hid hmq
            have HX := Lib.hid hX
            have XS := Lib.hid xs
            have XN := Lib.hid xn
            have XB := Lib.hid xb
            have XA := Lib.hid xa
            have HKn := Lib.hid hkn
            have hrow : (w2.alloc (.cells #[.int .i64 X.kd, .int .i64 X.N, .int .u64 (limb X.a 0 : Nat), .int .u64 (limb X.a 1 : Nat), .int .u64 (limb X.a 2 : Nat), .int .u64 (limb X.a 3 : Nat), .slice X.A X.m X.c] 65)).drew.heap[w2.heap.size]? = some (.cells #[.int .i64 X.kd, .int .i64 X.N, .int .u64 (limb X.a 0 : Nat), .int .u64 (limb X.a 1 : Nat), .int .u64 (limb X.a 2 : Nat), .int .u64 (limb X.a 3 : Nat), .slice X.A X.m X.c] 65 (0, 0)) := heap_alloc_new _ _
            have HRow := Lib.hid hrow
            have HPl := Lib.hid HSq.out.lt
            have HRl := Lib.hid (heap_lt hrow)
            have Hal := Lib.hid hal
            have HSa := Lib.hid (HSq.out.below hal)
            have HBa := Lib.hid (HBq.out.trans (hal.mono HBq.out.size))
            have Hlt := Lib.hid hlt
            clear hrow hvals hvr hX xs xn xb xa hon hmq hkn hal hle hlt
            by_cases h0 : X.kd = 0
            · have b0 : (X.kd == 0) = true := beq_iff_eq.2 h0
              have H0 := Lib.hid h0
              clear h0
              by_cases hN : X.N < 0
              · have bn : decide (X.N < 0) = true := decide_eq_true hN
                have hnum : X.num = 0 := by unfold It.num; omega
                have HNum := Lib.hid hnum
                clear hnum
                go_wp2_with (go_at_call 57; refine (lvar_walk HSa.out 9223372036854775807).mono ?_; rintro e w3 ⟨v, e2, k2, rfl, hg, hs3, hb3⟩; obtain ⟨hv, rfl, rfl⟩ := HOn.out.var H0.out (num_lt XB.out) HKn.out hg; obtain rfl : v = 0 := hv.trans HNum.out; have HS3 := Lib.hid hs3; have HB3 := Lib.hid (But.frame HBa.out HP.out hb3); clear hg hs3 hb3 hv)
                exact ⟨⟨q + 1, Hlt.out, by simp, HS3.out, HB3.out⟩, by have := Hlt.out; simp [intOf]; omega⟩
              · have bn : decide (X.N < 0) = false := decide_eq_false hN
                have hnum : ((X.num : Nat) : Int) = X.N := by unfold It.num; omega
                have HNum := Lib.hid hnum
                clear hnum
                go_wp2_with (go_at_call 57; refine (lvar_walk HSa.out 9223372036854775807).mono ?_; rintro e w3 ⟨v, e2, k2, rfl, hg, hs3, hb3⟩; obtain ⟨rfl, rfl, rfl⟩ := HOn.out.var H0.out (num_lt XB.out) HKn.out hg; rw [HNum.out]; have HS3 := Lib.hid hs3; have HB3 := Lib.hid (But.frame HBa.out HP.out hb3); clear hg hs3 hb3)
                exact ⟨⟨q + 1, Hlt.out, by simp, HS3.out, HB3.out⟩, by have := Hlt.out; simp [intOf]; omega⟩
            · have b0 : (X.kd == 0) = false := beq_eq_false_iff_ne.2 h0
              have H0 := Lib.hid h0
              clear h0
              by_cases h1 : X.kd = 1
              · have b1 : (X.kd == 1) = true := beq_iff_eq.2 h1
                have H1 := Lib.hid h1
                clear h1
                have heq := eqU
                go_upto_region 29 with fail
                first
                  | go_region_with (go_at_call 58; refine (lamount_any (HSa.out.below (Below.refl _ _).drew)).mono ?_; rintro e w3 ⟨a3, e3, k3, rfl, hg, hs3, hb3⟩; obtain ⟨rfl, rfl, rfl⟩ := HOn.out.amt H1.out XA.out HKn.out hg; have r3 := (hb3.block w2.heap.size HRl.out (by have := HPl.out; omega)).trans HRow.out; have x2 := (cell_in (i := 2) r3).trans rfl; have x3 := (cell_in (i := 3) r3).trans rfl; have x4 := (cell_in (i := 4) r3).trans rfl; have x5 := (cell_in (i := 5) r3).trans rfl; have HS3 := Lib.hid hs3; have HB3 := Lib.hid (But.frame HBa.out.drew HP.out hb3); clear hg hs3 hb3 r3; unfold U)
                  | fail
                all_goals (go_wp2; exact ⟨⟨q + 1, Hlt.out, by simp, HS3.out, HB3.out⟩, by have := Hlt.out; simp [intOf]; omega⟩)
              · have b1 : (X.kd == 1) = false := beq_eq_false_iff_ne.2 h1
                have H1 := Lib.hid h1
                clear h1
                obtain ⟨S, hS⟩ : ∃ S, S = sof X.g X.m := ⟨_, rfl⟩
                have HS := Lib.hid hS
                have cw := conv_sl (c := X.c) (XW.out.below HBa.out.drew) XW.out.none0
                rw [← hS] at cw
                clear hS
                go_upto_region 22 with fail
                first
                  | go_region_with (go_at_call 59; refine (ltext_walk (HSa.out.below (Below.refl _ _).drew) 100).mono ?_; rintro e w3 ⟨A3, c3, q3, m3, e3, k3, rfl, hg, hsl3, hs3, hb3⟩; obtain ⟨rfl, rfl, rfl, hby⟩ := HOn.out.txt H0.out H1.out HMq.out HKn.out hg; have r3 := (hb3.block w2.heap.size HRl.out (by have := HPl.out; omega)).trans HRow.out; have x6 := (cell_in (i := 6) r3).trans rfl; have HS3 := Lib.hid hs3; have HB3 := Lib.hid (But.frame HBa.out.drew HP.out hb3); have cv3 := conv_sl (c := c3) hsl3 hsl3.none0; rw [sof_congr hby, ← HS.out] at cv3; have cw3 := conv_sl (c := X.c) (XW.out.below HB3.out) XW.out.none0; rw [← HS.out] at cw3; clear hg hs3 hb3 r3 hsl3 hby)
                  | fail
                all_goals (go_wp2; exact ⟨⟨q + 1, Hlt.out, by simp, HS3.out, HB3.out⟩, by have := Hlt.out; simp [intOf]; omega⟩)
          · obtain rfl : q = k := by omega
            have p3 : ¬ (q : Int) < q := by omega
            have hl := left_live HSq.out
            rw [if_pos rfl, Hpn.out, Nat.sub_self] at hl
            have HLe := Lib.hid hl
            clear hl
            go_wp2_with (first
              | (go_at_call 42; refine (lives04_walk _).mono ?_; rintro e w9 ⟨rfl, hb9⟩; have HB9 := Lib.hid hb9; clear hb9)
              | (go_at_call 55; refine (end_live HS4.out).mono ?_; rintro e w5 ⟨e5, rfl, he5, hs5, hb5⟩; rw [Hpn.out, if_neg (by omega)] at he5; obtain rfl := he5; have HB5 := Lib.hid (But.frame HB4.out HP.out hb5); clear hs5 hb5)
              | (go_at_call 54; refine HLe.out.mono ?_; rintro e w4 ⟨rfl, hb4⟩; have HS4 := Lib.hid (HSq.out.below hb4); have HB4 := Lib.hid (HBq.out.trans (hb4.mono HBq.out.size)); clear hb4))
            go_ret
            exact ⟨rfl, HB5.out.trans (HB9.out.mono HB5.out.size)⟩
end Go.Proofs.Ytcodlbfomfjmfaa
