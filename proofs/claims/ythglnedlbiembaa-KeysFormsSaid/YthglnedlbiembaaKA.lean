/- keys.Nums, tallageref09.Nums, at any text. -/
import Derived.Test.YthglnedlbiembaaK9
namespace Go.Proofs.Ythglnedlbiembaa
open Go.RowKit Go.Sort

def okN (v : ByteArray) : Prop := v.size % 8 = 0 ∧ ∀ i, i < v.size / 8 → chunk v i < 2 ^ 63
def chv (v : ByteArray) (i : Nat) : Int := if i < v.size / 8 ∧ chunk v i < 2 ^ 63 then (chunk v i : Int) else 0
theorem chv_lt (v : ByteArray) (i : Nat) : chv v i < 2 ^ 63 := by
  unfold chv
  split
  · omega
  · decide
theorem chv_ok {v : ByteArray} (h : okN v) {i : Nat} (hi : i < v.size / 8) : ((chunk v i : Nat) : Int) = chv v i := by
  unfold chv; rw [if_pos ⟨hi, h.2 i hi⟩]
def NumsAny (v : ByteArray) (w : World) (e : Ending) (w' : World) : Prop :=
  ((okN v ∧ ∃ A c, e = .returned (.tuple #[.slice A (v.size / 8) c, .bool true]) ∧ Il w' A (v.size / 8) (chv v)) ∨ (¬ okN v ∧ e = .returned (.tuple #[.slice none 0 0, .bool false]))) ∧ Below w.heap.size w w'
set_option maxRecDepth 100000 in
set_option maxHeartbeats 1000000 in
theorem numsAny_walk (v : ByteArray) (w : World) (hv : v.size ≤ 800) : Calls Try.prog 83 #[.string v] w (NumsAny v w) := by
  by_cases h8 : v.size % 8 = 0
  · refine (nums_walk v (v.size / 8) w (by omega) (by omega)).mono fun e w' ⟨h, hw⟩ => ⟨?_, hw⟩
    rcases h with ⟨h1, he, ho⟩ | ⟨⟨i, hi, hno⟩, he⟩
    · have ok : okN v := ⟨h8, h1⟩
      obtain ⟨A, c, e1, il⟩ := ownN_Il (f := chv v) (chv_lt v) (fun i hi => chv_ok ok hi) ho
      exact .inl ⟨ok, A, c, by rw [he, e1], il⟩
    · exact .inr ⟨fun h => hno (h.2 i hi), he⟩
  · have hno : ¬ okN v := fun h => h8 h.1
    have q1 : ((v.size : Int) % 8 != 0) = true := by rw [bne_iff_ne]; omega
    have q2 : ((v.size : Int).tmod 8 != 0) = true := by rw [Int.tmod_eq_emod_of_nonneg (by omega)]; exact q1
    clear h8
    go_enter Try.func83, Try.ntmps83
    go_wp2
    refine bodyPost_ret (v := .tuple #[.slice none 0 0, .bool false]) (by simp [results, Try.results83, go_sem]) rfl ⟨.inr ⟨hno, rfl⟩, Below.refl _ _⟩
theorem drop_getD (v : ByteArray) (j k : Nat) (h : 8 * j + k < v.size) : ((v.data.toList.drop (8 * j)).getD k 0) = v[8 * j + k] := by
  have hl : v.data.toList.length = v.size := rfl
  simp only [List.getD, List.getElem?_drop]
  rw [List.getElem?_eq_getElem (by omega), Option.getD_some]
  rfl
theorem numl_lt (l : List UInt8) : ∀ k, numl l k < 2 ^ (8 * k)
  | 0 => by simp [numl]
  | k + 1 => by
    have h := numl_lt l k
    have h2 := (l.getD k 0).toNat_lt
    rw [numl, show 8 * (k + 1) = 8 * k + 8 by omega, Nat.pow_add]
    omega
def RnsRel (v : ByteArray) (w : World) (x y : Value) (wr : World) : Prop :=
  ∃ j p : Nat, p = 8 * j ∧ j ≤ v.size / 8 ∧ y = .int .i64 (p : Nat) ∧ (∀ i, i < j → chunk v i < 2 ^ 63) ∧ wr.ownsRow w.heap.size 3 1 x j (i64n (chunk v) j) ∧ Below w.heap.size w wr
set_option maxRecDepth 100000 in
set_option maxHeartbeats 2000000 in
theorem rnums_walk (v : ByteArray) (w : World) (hv : v.size ≤ 800) : Calls Try.prog 88 #[.string v] w (NumsAny v w) := by
  obtain ⟨i0, hi, hz0, hz1, hz2⟩ := info_parts infoI64
  by_cases h8 : v.size % 8 = 0
  · have q1 : ((v.size : Int) % 8 != 0) = false := by rw [bne_eq_false_iff_eq]; omega
    have q2 : ((v.size : Int).tmod 8 != 0) = false := by rw [Int.tmod_eq_emod_of_nonneg (by omega)]; exact q1
    have vI : (v.size : Int) ≤ 800 := by omega
    have H8 := Lib.hid h8
    clear h8
    go_enter Try.func88, Try.ntmps88
    go_wp2
    go_loopw [4, 5] (RnsRel v w) (fun _ y _ => v.size - (intOf y).toNat)
    case atStart => exact ⟨0, 0, rfl, by omega, rfl, fun i h => absurd h (by omega), World.ownsRow_nil _ _ _ _, Below.refl _ _⟩
    case round =>
      obtain ⟨j, p, hp, hj, rfl, hpos, hown, hbel⟩ := hrel
      have Hp := Lib.hid hp
      have Hpos := Lib.hid hpos
      have hsz := hbel.size
      by_cases hlt : j < v.size / 8
      · have q3 : (p : Int) < v.size := by have := H8.out; omega
        have Hlt := Lib.hid hlt
        have p8 := Lib.hid (show p + 8 ≤ v.size by have := H8.out; omega)
        have q4 : IntKind.i64.wrap ((p : Int) + 8) = (p : Int) + 8 := IntWalk.i64_in _ (by omega)
        clear hp hpos hlt hj
        go_wp2
        go_loopw [6, 7] (fun x y wq => ∃ k : Nat, k ≤ 8 ∧ y = .int .i64 (k : Nat) ∧ x = .int .u64 (numl (v.data.toList.drop (8 * j)) k : Nat) ∧ wq = wr) (fun _ y _ => 8 - (intOf y).toNat)
        case atStart => exact ⟨0, by omega, rfl, rfl, rfl⟩
        case round =>
          obtain ⟨k, hk, rfl, rfl, rfl⟩ := hrel
          obtain ⟨n, hn⟩ : ∃ n, n = numl (v.data.toList.drop (8 * j)) k := ⟨_, rfl⟩
          rw [← hn]
          have Hn := Lib.hid hn
          clear hn
          by_cases hlt : k < 8
          · have r1 : (p : Int) + (k : Int) < v.size := by have := p8.out; omega
            have r2 : IntKind.i64.wrap ((p : Int) + (k : Int)) = (p : Int) + (k : Int) := IntWalk.i64_in _ (by omega)
            have r3 : (0 : Int) ≤ (p : Int) + (k : Int) := by omega
            have r4 : ((p : Int) + (k : Int)).toNat = p + k := by omega
            go_wp2
            go_roundw
            case rel =>
              have h1 : n < 2 ^ 56 := by
                rw [Hn.out]
                exact Nat.lt_of_lt_of_le (numl_lt _ k) (Nat.pow_le_pow_right (by decide) (by omega))
              refine ⟨k + 1, by omega, by go_num, ?_, trivial⟩
              rw [or_byte h1 (UInt8.toNat_lt _), numl, ← Hn.out]
              congr 4
              have e := drop_getD v j k (by have := Hp.out; have := p8.out; omega)
              rw [e]
              congr 1
              have := Hp.out
              congr 1
            case measure => simp [intOf]; omega
          · obtain rfl : k = 8 := by omega
            have r1 : ¬ ((8 : Nat) : Int) < 8 := by omega
            have hch : n = chunk v j := Hn.out
            have Hch := Lib.hid hch
            by_cases hbig : n < 2 ^ 63
            · have r5 : ¬ (9223372036854775807 : Int) < (n : Int) := by omega
              have r6 : IntKind.i64.wrap (n : Int) = (n : Int) := IntWalk.i64_in _ (by omega)
              have Hbig := Lib.hid hbig
              clear hch hbig
              have jI : j ≤ 100 := by have := Hlt.out; omega
              go_wp2_with (at_builtin; refine wpList_append_own _ rfl _ _ _ rfl w.heap.size 3 i0 _ 1 8 Try.underlying62 hi hz0 hz1 hz2 rfl (by omega) _ j (i64n (chunk v) j) rfl (hown.alloc _) ⟨wr.heap.size, 0, none⟩ 1 1 [.int .i64 (n : Nat)] rfl rfl (World.news_of_block (cs := #[.int .i64 (n : Nat)]) (t := 3) (fr := (0, 0)) (heap_alloc_new wr _)) (by simp [Value.oneCell']) (by unfold maxLen; omega) (by omega) (by simp; omega) ?_)
              intro v1 w1 hown1 hgrow _
              go_wp2
              refine ⟨⟨j + 1, p + 8, by have := Hp.out; omega, by have := Hlt.out; omega, by go_num, fun i hi' => ?_, ?_, ?_⟩, by have := p8.out; simp [intOf]; omega⟩
              · rcases Nat.lt_or_ge i j with h | h
                · exact Hpos.out i h
                · rw [show i = j by omega, ← Hch.out]; exact Hbig.out
              · rw [i64n_succ, ← Hch.out]; exact hown1
              · exact (hbel.alloc hbel.size _).grown hgrow (by simp only [World.size_alloc]; omega) (fun q hq => own_ge hown q hq)
            · have r5 : (9223372036854775807 : Int) < (n : Int) := by omega
              have Hbig := Lib.hid hbig
              clear hch hbig
              go_wp2
              refine bodyPost_ret (v := .tuple #[.slice none 0 0, .bool false]) (by simp [results, Try.results88, go_sem]) rfl ⟨.inr ⟨fun h => Hbig.out (by rw [Hch.out]; exact h.2 j Hlt.out), rfl⟩, hbel⟩
      · have hj2 : j = v.size / 8 := by omega
        have q3 : ¬ (p : Int) < v.size := by have := H8.out; omega
        have ok : okN v := ⟨H8.out, by rw [← hj2]; exact Hpos.out⟩
        obtain ⟨A, c, rfl, il⟩ := ownN_Il (f := chv v) (chv_lt v) (fun i hi => chv_ok ok (by omega)) hown
        have Hj2 := Lib.hid hj2
        clear hj2 hp hpos hj
        go_wp2
        refine bodyPost_ret (v := .tuple #[.slice A j c, .bool true]) (by simp [results, Try.results88, go_sem]) rfl ⟨.inl ⟨ok, A, c, by rw [← Hj2.out], by rw [← Hj2.out]; exact il⟩, hbel⟩
  · have hno : ¬ okN v := fun h => h8 h.1
    have q1 : ((v.size : Int) % 8 != 0) = true := by rw [bne_iff_ne]; omega
    have q2 : ((v.size : Int).tmod 8 != 0) = true := by rw [Int.tmod_eq_emod_of_nonneg (by omega)]; exact q1
    clear h8
    go_enter Try.func88, Try.ntmps88
    go_wp2
    refine bodyPost_ret (v := .tuple #[.slice none 0 0, .bool false]) (by simp [results, Try.results88, go_sem]) rfl ⟨.inr ⟨hno, rfl⟩, Below.refl _ _⟩
end Go.Proofs.Ythglnedlbiembaa
