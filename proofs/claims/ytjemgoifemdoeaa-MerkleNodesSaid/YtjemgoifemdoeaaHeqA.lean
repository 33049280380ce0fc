/- Two hashes held against each other. -/
import Derived.Test.YtjemgoifemdoeaaOa
namespace Go.Proofs.Ytjemgoifemdoeaa
open Go.RowKit

theorem forIn_all {P : Program} (w : World) (b : Nat → Bool) (body : Nat → Option Bool × Unit → Sem (ForInStep (Option Bool × Unit))) :
    ∀ l : List Nat, (∀ i ∈ l, ∀ s, (body i s).run P w = .ok (if b i then .yield (none, ()) else .done (some false, ())) w) → (forIn l (none, ()) body : Sem _).run P w = .ok (if l.all b then (none, ()) else (some false, ())) w
  | [], _ => by simp [List.forIn_nil]
  | i :: l, h => by
    rw [List.forIn_cons, Sem.run_bind, h i (by simp) _]
    cases hb : b i
    · simp [hb]
    · have := forIn_all w b body l (fun j hj => h j (by simp [hj]))
      simp [hb]
      simpa using this
theorem part_u8 (h : Nat → Nat) {i : Nat} (hi : i < 32) (w : World) : (part 5 (bys h 32).toArray (i * 1)).run Try.prog w = .ok (.int .u8 (h i : Nat)) w := by
  have aa := Try.isAgg5
  have z3 := Try.sizeOf5
  have hc := bys_get h hi
  unfold part
  simp only [Sem.run_bind, aa, Result.andThen_ok, Nat.mul_one, List.getElem?_toArray, hc]
  rfl
set_option maxRecDepth 100000 in
theorem hash_eq (f g : Nat → Nat) (w : World) : (Op.equalIn 10000 25 (.agg (bys f 32).toArray) (.agg (bys g 32).toArray)).run Try.prog w = .ok ((List.range 32).all fun i => f i == g i) w := by
  have u3 := Try.underlying5
  have aa := Try.isAgg5
  have z3 := Try.sizeOf5
  rw [show (10000 : Nat) = 9999 + 1 from rfl, Op.equalIn]
  simp only [Sem.run_bind, run_underlying Try.underlying25, Result.andThen_ok]
  simp only [Std.Legacy.Range.forIn_eq_forIn_range', Std.Legacy.Range.size, Nat.sub_zero, Nat.add_sub_cancel, Nat.div_one]
  rw [z3 w, Result.andThen_ok, forIn_all w (fun i => f i == g i)]
  · rw [Result.andThen_ok, List.range_eq_range']
    cases (List.range' 0 32).all fun i => f i == g i <;> rfl
  · intro i hi s
    have hi32 : i < 32 := by simpa using hi
    have h1 := part_u8 f hi32 w
    have h2 := part_u8 g hi32 w
    simp only [Sem.run_bind, h1, h2, Result.andThen_ok]
    have h3 : (Op.equalIn 9999 5 (.int .u8 (f i : Nat)) (.int .u8 (g i : Nat))).run Try.prog w = .ok (f i == g i) w := by
      rw [show (9999 : Nat) = 9998 + 1 from rfl, Op.equalIn]
      simp only [Sem.run_bind, run_underlying u3, Result.andThen_ok]
      have e : ((f i : Int) == (g i : Int)) = (f i == g i) := by
        by_cases h : f i = g i
        · simp [h]
        · have h' : ¬ (f i : Int) = (g i : Int) := by omega
          rw [beq_eq_false_iff_ne.2 h, beq_eq_false_iff_ne.2 h']
      rw [← e]; rfl
    rw [h3, Result.andThen_ok]
    cases (f i == g i) <;> rfl
end Go.Proofs.Ytjemgoifemdoeaa
