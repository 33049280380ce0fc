/- tallageref01.Parse, walked. -/
import Derived.Test.YthglnedlbiembaaF7
import Derived.Test.YthglnedlbiembaaRE
namespace Go.Proofs.Ythglnedlbiembaa
open Go.RowKit Go.Sort

theorem times10_c (va : Value) (N : Nat) (w : World) (t : TypeId) (ha : NatV w va N 20) :
    Calls Try.prog 102 #[va, .slice (some ⟨w.heap.size, 0, none⟩) 1 1] (w.alloc (.cells #[.int .u32 10] t))
      fun e w' => (∃ v, e = .returned v ∧ NatV w' v (N * 10) 21) ∧ Below (w.alloc (.cells #[.int .u32 10] t)).heap.size (w.alloc (.cells #[.int .u32 10] t)) w' := by
  obtain ⟨n, f, h1, h2, h3, _⟩ := ha
  have h := times_walk va (.slice (some ⟨w.heap.size, 0, none⟩) 1 1) n 1 f (fun _ => 10) (w.alloc (.cells #[.int .u32 10] t)) (h2.below ((Below.refl _ _).alloc (Nat.le_refl _) _)) Ws.ten (by omega) (by omega)
  rw [h3, show nval (fun _ => 10) 1 = 10 from rfl] at h
  exact h.mono fun e w' ⟨⟨v, he, n', f', p1, p2, p3, p4⟩, hw⟩ => ⟨⟨v, he, n', f', by omega, p2, p3, p4⟩, hw⟩
theorem trimd_c (d : Nat) (w : World) (t : TypeId) (hd : d < 10) :
    Calls Try.prog 109 #[.slice (some ⟨w.heap.size, 0, none⟩) 1 1] (w.alloc (.cells #[.int .u32 (d : Nat)] t))
      fun e w' => (∃ v, e = .returned v ∧ NatV w' v d 8) ∧ w' = w.alloc (.cells #[.int .u32 (d : Nat)] t) := by
  have hw : Ws (w.alloc (.cells #[.int .u32 (d : Nat)] t)) (.slice (some ⟨w.heap.size, 0, none⟩) 1 1) 1 (fun _ => d) :=
    ⟨fun _ => by omega, .inr ⟨w.heap.size, 0, 1, rfl, by omega, by simp, fun i hi => by obtain rfl : i = 0 := (by omega); simp⟩⟩
  refine (trim_walk _ 1 _ _ hw (by omega)).mono fun e w' ⟨v, k, he, hk, h1, h2, h3, h4⟩ => ⟨⟨v, he, k, _, by omega, by rw [h4]; exact h1, by rw [h2]; simp [nval], h3⟩, h4⟩
theorem times10_g (va : Value) (B N : Nat) (w : World) (ha : NatV w va N 20) (hB : B < w.heap.size) (hc : w.cell? ⟨B, 0, none⟩ = some (.int .u32 10)) :
    Calls Try.prog 102 #[va, .slice (some ⟨B, 0, none⟩) 1 1] w
      fun e w' => (∃ v, e = .returned v ∧ NatV w' v (N * 10) 21) ∧ Below w.heap.size w w' := by
  obtain ⟨n, f, h1, h2, h3, _⟩ := ha
  have hw : Ws w (.slice (some ⟨B, 0, none⟩) 1 1) 1 (fun _ => 10) := ⟨fun _ => by decide, .inr ⟨B, 0, 1, rfl, by omega, hB, fun i hi => by obtain rfl : i = 0 := (by omega); exact hc⟩⟩
  have h := times_walk va (.slice (some ⟨B, 0, none⟩) 1 1) n 1 f (fun _ => 10) w h2 hw (by omega) (by omega)
  rw [h3, show nval (fun _ => 10) 1 = 10 from rfl] at h
  exact h.mono fun e w' ⟨⟨v, he, n', f', p1, p2, p3, p4⟩, hw⟩ => ⟨⟨v, he, n', f', by omega, p2, p3, p4⟩, hw⟩
theorem trimd_g (B d : Nat) (w : World) (hd : d < 10) (hB : B < w.heap.size) (hc : w.cell? ⟨B, 0, none⟩ = some (.int .u32 (d : Nat))) :
    Calls Try.prog 109 #[.slice (some ⟨B, 0, none⟩) 1 1] w
      fun e w' => (∃ v, e = .returned v ∧ NatV w' v d 8) ∧ w' = w := by
  have hw : Ws w (.slice (some ⟨B, 0, none⟩) 1 1) 1 (fun _ => d) := ⟨fun _ => by omega, .inr ⟨B, 0, 1, rfl, by omega, hB, fun i hi => by obtain rfl : i = 0 := (by omega); exact hc⟩⟩
  refine (trim_walk _ 1 _ _ hw (by omega)).mono fun e w' ⟨v, k, he, hk, h1, h2, h3, h4⟩ => ⟨⟨v, he, k, _, by omega, by rw [h4]; exact h1, by rw [h2]; simp [nval], h3⟩, h4⟩
theorem bwA {W w' : World} (h : Below W.heap.size W w') (o : Obj) : Below W.heap.size W (w'.alloc o) := h.alloc h.size o
theorem bwD {W w' : World} (h : Below W.heap.size W w') : Below W.heap.size W w'.drew := below_drewN h 1
theorem bwB {W w1 w2 : World} (h : Below W.heap.size W w1) (hb : Below w1.heap.size w1 w2) : Below W.heap.size W w2 := h.trans (hb.mono h.size)
theorem plusd_c (va vb : Value) (N d : Nat) (w : World) (ha : NatV w va N 21) (hb : NatV w vb d 8) :
    Calls Try.prog 95 #[va, vb] w fun e w' => (∃ v, e = .returned v ∧ NatV w' v (N + d) 22) ∧ Below w.heap.size w w' := by
  obtain ⟨n, f, h1, h2, h3, _⟩ := ha
  obtain ⟨m, g, k1, k2, k3, _⟩ := hb
  rw [← h3, ← k3]
  exact (plus_walk va vb n m f g w h2 k2 (by omega) (by omega)).mono fun e w' ⟨⟨v, he, n', f', p1, p2, p3, p4⟩, hw⟩ => ⟨⟨v, he, n', f', by omega, p2, p3, p4⟩, hw⟩
theorem NatV.tight {w : World} {v : Value} {N m k : Nat} (h : NatV w v N m) (hN : N < 2 ^ (32 * k)) : NatV w v N k := by
  obtain ⟨n, f, h1, h2, h3, h4⟩ := h
  exact ⟨n, f, trimmed_len h4 (by rw [h3]; exact hN), h2, h3, h4⟩

theorem big78 : 10 ^ 78 < 2 ^ (32 * 9) := by decide +kernel
def sbyte (s : ByteArray) (i : Nat) : Nat := if h : i < s.size then (s[i]).toNat else 0
def ParseAny (s : ByteArray) (w : World) (e : Ending) (w' : World) : Prop :=
  ((pok (sbyte s) s.size ∧ e = .returned (.tuple #[U (pnum (sbyte s) s.size), .bool true])) ∨ (¬ pok (sbyte s) s.size ∧ e = .returned (.tuple #[U 0, .bool false]))) ∧ Below w.heap.size w w'
theorem parse_end {s : ByteArray} {N x : Nat} {ok : Bool} (h0 : 0 < s.size) (hl : s.size = 1 ∨ sbyte s 0 ≠ 48) (hd : ∀ j, j < s.size → 48 ≤ sbyte s j ∧ sbyte s j ≤ 57) (hN : N = pnum (sbyte s) s.size) (hx : x = (if N < 2 ^ 256 then N else 0)) (hok : ok = decide (N < 2 ^ 256)) :
    (pok (sbyte s) s.size ∧ Ending.returned (.tuple #[U x, .bool ok]) = .returned (.tuple #[U (pnum (sbyte s) s.size), .bool true])) ∨ (¬ pok (sbyte s) s.size ∧ Ending.returned (.tuple #[U x, .bool ok]) = .returned (.tuple #[U 0, .bool false])) := by
  by_cases h : N < 2 ^ 256
  · refine .inl ⟨⟨h0, hl, hd, by rw [← hN]; exact h⟩, ?_⟩
    rw [hx, hok, if_pos h, decide_eq_true h, hN]
  · refine .inr ⟨fun hp => h (by rw [hN]; exact hp.2.2.2), ?_⟩
    rw [hx, hok, if_neg h, decide_eq_false h]
theorem NatV.mono {w : World} {v : Value} {N k m : Nat} (h : NatV w v N k) (hk : k ≤ m) : NatV w v N m := by
  obtain ⟨n, f, h1, h2, h3, h4⟩ := h
  exact ⟨n, f, by omega, h2, h3, h4⟩
def RpRel (s : ByteArray) (w : World) (n i : Value) (wr : World) : Prop :=
  ∃ k, k ≤ s.size ∧ i = .int .i64 (k : Nat) ∧ NatV wr n (pnum (sbyte s) k) 20 ∧ (∀ j, j < k → 48 ≤ sbyte s j ∧ sbyte s j ≤ 57) ∧ Arr .u64 wr w.heap.size 4 (fun _ => 0) ∧ Below w.heap.size w wr

set_option maxRecDepth 100000 in
set_option maxHeartbeats 4000000 in
theorem rparse_walk (s : ByteArray) (w : World) (hs : s.size ≤ 200) : Calls Try.prog 30 #[.string s] w (ParseAny s w) := by
  by_cases h0 : s.size = 0
  · have p0 : ((s.size : Int) == 0) = true := by rw [h0]; rfl
    have Hno := Lib.hid (show ¬ pok (sbyte s) s.size from fun h => by have := h.1; omega)
    clear h0
    go_enter Try.func30, Try.ntmps30
    go_wp2
    refine bodyPost_ret (v := .tuple #[.agg #[.int .u64 0, .int .u64 0, .int .u64 0, .int .u64 0], .bool false]) (by simp [results, Try.results30, go_sem]) rfl ⟨.inr ⟨Hno.out, by rw [U_zero]⟩, (Below.refl _ _).alloc (Nat.le_refl _) _⟩
  · have p0 : ((s.size : Int) == 0) = false := by rw [beq_eq_false_iff_ne]; omega
    by_cases h78 : 78 < s.size
    · have p1 : (78 : Int) < (s.size : Int) := by omega
      have Hno := Lib.hid (show ¬ pok (sbyte s) s.size from fun h => by have := pok_le h; omega)
      clear h0 h78
      go_enter Try.func30, Try.ntmps30
      go_wp2
      refine bodyPost_ret (v := .tuple #[.agg #[.int .u64 0, .int .u64 0, .int .u64 0, .int .u64 0], .bool false]) (by simp [results, Try.results30, go_sem]) rfl ⟨.inr ⟨Hno.out, by rw [U_zero]⟩, (Below.refl _ _).alloc (Nat.le_refl _) _⟩
    · have p1 : ¬ (78 : Int) < (s.size : Int) := by omega
      have hp0 : 0 < s.size := by omega
      by_cases hb : 1 < s.size ∧ (s[0]'hp0).toNat = 48
      · have p2 : (1 : Int) < (s.size : Int) := by omega
        have p3 : (((s[0]'hp0).toNat : Int) == 48) = true := by rw [hb.2]; rfl
        have Hno := Lib.hid (show ¬ pok (sbyte s) s.size from fun h => by
          rcases h.2.1 with h1 | h1
          · omega
          · exact h1 (by unfold sbyte; rw [dif_pos hp0]; exact hb.2))
        clear h0 h78 hb
        go_enter Try.func30, Try.ntmps30
        go_wp2
        refine bodyPost_ret (v := .tuple #[.agg #[.int .u64 0, .int .u64 0, .int .u64 0, .int .u64 0], .bool false]) (by simp [results, Try.results30, go_sem]) rfl ⟨.inr ⟨Hno.out, by rw [U_zero]⟩, (Below.refl _ _).alloc (Nat.le_refl _) _⟩
      · have hd : (¬ (1 : Int) < (s.size : Int)) ∨ ((1 : Int) < (s.size : Int) ∧ (((s[0]'hp0).toNat : Int) == 48) = false) := by
          by_cases h1 : 1 < s.size
          · exact .inr ⟨by omega, by rw [beq_eq_false_iff_ne]; intro h; exact hb ⟨h1, by omega⟩⟩
          · exact .inl (by omega)
        have Hlead := Lib.hid (show s.size = 1 ∨ sbyte s 0 ≠ 48 by
          by_cases h1 : 1 < s.size
          · right; unfold sbyte; rw [dif_pos hp0]; exact fun h => hb ⟨h1, h⟩
          · left; omega)
        clear h0 h78 hb
        rcases hd with p2 | ⟨p2, p3⟩
        all_goals
          go_enter Try.func30, Try.ntmps30
          go_wp2
          go_loopw [4, 5] (RpRel s w) (fun _ y _ => s.size - (intOf y).toNat)
          case atStart => exact ⟨0, by omega, rfl, ⟨0, fun _ => 0, by omega, ⟨by simp, .inl ⟨rfl, rfl⟩⟩, rfl, .inl rfl⟩, fun j h => absurd h (by omega), Arr.new4 (f := fun _ => 0) rfl, (Below.refl _ _).alloc (Nat.le_refl _) _⟩
          case round =>
            obtain ⟨k, hk, rfl, hn, hdig, hz, hbel⟩ := hrel
            by_cases hlt : k < s.size
            · have hI : (k : Int) < (s.size : Int) := by omega
              obtain ⟨b, hb⟩ : ∃ b, b = (s[k]'hlt).toNat := ⟨_, rfl⟩
              have hbk : (s[k]'hlt).toNat = b := hb.symm
              have hsb : sbyte s k = b := by unfold sbyte; rw [dif_pos hlt]; exact hbk
              clear hb
              by_cases hd : 48 ≤ b ∧ b ≤ 57
              · obtain ⟨d, hdd⟩ : ∃ d, d = b - 48 := ⟨_, rfl⟩
                have hd10 : d < 10 := by omega
                have b1 : ¬ (b : Int) < 48 := by omega
                have b2 : ¬ (57 : Int) < (b : Int) := by omega
                have b3 : IntKind.u8.wrap ((b : Int) - 48) = (d : Int) := by rw [IntWalk.u8_in _ (by omega)]; omega
                have b4 : IntKind.u32.wrap (d : Int) = (d : Int) := IntWalk.u32_in _ (by omega)
                obtain ⟨m, hm⟩ : ∃ m, m = pnum (sbyte s) k := ⟨_, rfl⟩
                rw [← hm] at hn
                have hnext : m * 10 + d = pnum (sbyte s) (k + 1) := by rw [hm, hdd, ← hsb]; rfl
                have hdig' : ∀ j, j < k + 1 → 48 ≤ sbyte s j ∧ sbyte s j ≤ 57 := fun j hj => by
                  rcases Nat.lt_or_ge j k with h | h
                  · exact hdig j h
                  · obtain rfl : j = k := by omega
                    rw [hsb]; exact hd
                have hbound : pnum (sbyte s) (k + 1) < 2 ^ (32 * 9) :=
                  Nat.lt_trans (pnum_lt (k + 1) fun j hj => (hdig' j hj).2) (Nat.lt_of_le_of_lt (Nat.pow_le_pow_right (by decide) (by omega : k + 1 ≤ 78)) big78)
                have Hnext := Lib.hid hnext
                have Hdig := Lib.hid hdig'
                have Hbound := Lib.hid hbound
                clear hm hdd hnext hdig hdig' hbound hd hsb
                go_upto_region 9 with (fail)
                go_region_with (first
                  | (go_at_call 95; refine (plusd_c v4 v5 (m * 10) d _ (hv4.below (by repeat (first | exact Below.refl _ _ | refine bwA ?_ _ | refine bwD ?_))) hv5).mono ?_; rintro e w6 ⟨⟨v6, rfl, hv6⟩, hb6⟩)
                  | (go_at_call 109; refine (trimd_g _ d _ hd10 (by first | omega | (simp; done) | (simp; omega)) (by first | (simp; done) | (rw [tr _ (by first | (simp; done) | (simp; omega))]; simp; done))).mono ?_; rintro e w5 ⟨⟨v5, rfl, hv5⟩, rfl⟩)
                  | (go_at_call 102; refine (times10_g _ _ m _ (hn.below (by repeat (first | exact Below.refl _ _ | refine bwA ?_ _ | refine bwD ?_))) (by first | (simp; done) | (simp; omega)) (by simp)).mono ?_; rintro e w4 ⟨⟨v4, rfl, hv4⟩, hb4⟩; have hw4 : Below wr.heap.size wr w4 := bwB (by repeat (first | exact Below.refl _ _ | refine bwA ?_ _ | refine bwD ?_)) hb4; have sz4 := hb4.size; (try simp at sz4); have tr := fun B (hB : B < _) => hb4.cell (p := ⟨B, 0, none⟩) hB))
                all_goals
                  go_wp2
                  go_roundw
                  case rel =>
                    have hw6 : Below wr.heap.size wr w6 := bwB (by repeat (first | exact hw4 | refine bwA ?_ _ | refine bwD ?_)) hb6
                    refine ⟨k + 1, by omega, by go_num, ?_, Hdig.out, hz.below hw6 hz.lt4, hbel.trans (hw6.mono hbel.size)⟩
                    rw [← Hnext.out]
                    exact (hv6.tight (by rw [Hnext.out]; exact Hbound.out)).mono (by omega)
                  case measure => simp [intOf]; omega
              · have Hno := Lib.hid (show ¬ pok (sbyte s) s.size from fun h => hd (by rw [← hsb]; exact h.2.2.1 k hlt))
                have part : b < 48 ∨ ¬ b < 48 ∧ 57 < b := by omega
                obtain ⟨z0, z1, z2, z3⟩ := hz.frees4
                obtain ⟨y0, y1, y2, y3⟩ := hz.cells4
                clear hd hdig hsb
                rcases part with h1 | ⟨h1, h2⟩
                · have r1 : (b : Int) < 48 := by omega
                  clear h1
                  go_wp2
                  refine bodyPost_ret (v := .tuple #[.agg #[.int .u64 0, .int .u64 0, .int .u64 0, .int .u64 0], .bool false]) (by simp [results, Try.results30, go_sem, y0, y1, y2, y3]) rfl ⟨.inr ⟨Hno.out, by rw [U_zero]⟩, below_set4 hbel (Nat.le_refl _)⟩
                · have r1 : ¬ (b : Int) < 48 := by omega
                  have r2 : (57 : Int) < (b : Int) := by omega
                  clear h1 h2
                  go_wp2
                  refine bodyPost_ret (v := .tuple #[.agg #[.int .u64 0, .int .u64 0, .int .u64 0, .int .u64 0], .bool false]) (by simp [results, Try.results30, go_sem, y0, y1, y2, y3]) rfl ⟨.inr ⟨Hno.out, by rw [U_zero]⟩, below_set4 hbel (Nat.le_refl _)⟩
            · have hke : k = s.size := by omega
              subst hke
              have hI : ¬ ((s.size : Nat) : Int) < (s.size : Int) := by omega
              obtain ⟨N, hN⟩ : ∃ N, N = pnum (sbyte s) s.size := ⟨_, rfl⟩
              rw [← hN] at hn
              have HN := Lib.hid hN
              have Hdig := Lib.hid hdig
              obtain ⟨x, hx⟩ : ∃ x, x = (if N < 2 ^ 256 then N else 0) := ⟨_, rfl⟩
              obtain ⟨ok, hok⟩ : ∃ x, x = decide (N < 2 ^ 256) := ⟨_, rfl⟩
              have Hx := Lib.hid hx
              have Hok := Lib.hid hok
              clear hN hdig hx hok
              go_wp2_with (go_at_call 107; refine (toUG_c _ N 20 _ hn (by omega)).mono ?_; rintro e w7 ⟨rfl, hb7⟩; rw [← Hx.out, ← Hok.out]; have hz7 := hz.below hb7 hz.lt4; obtain ⟨z0, z1, z2, z3⟩ := hz7.frees4; obtain ⟨y0, y1, y2, y3⟩ := hz7.cells4; unfold U)
              refine bodyPost_ret (v := .tuple #[.agg #[.int .u64 (limb x 0 : Nat), .int .u64 (limb x 1 : Nat), .int .u64 (limb x 2 : Nat), .int .u64 (limb x 3 : Nat)], .bool ok]) (by simp [results, Try.results30, go_sem, y0, y1, y2, y3]) rfl ⟨?_, below_set4 (hbel.trans (hb7.mono hbel.size)) (Nat.le_refl _)⟩
              exact parse_end hp0 Hlead.out Hdig.out HN.out Hx.out Hok.out
end Go.Proofs.Ythglnedlbiembaa
