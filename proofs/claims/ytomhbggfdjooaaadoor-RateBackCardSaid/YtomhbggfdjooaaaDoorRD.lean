/- tallageref01.Mul, Div, walked. -/
import Derived.Test.YtomhbggfdjooaaaDoorRC
import Derived.Test.YtomhbggfdjooaaaDoorUA
namespace Go.Proofs.YtomhbggfdjooaaaDoor
open Go.RowKit Go.Sort

theorem times_c (va vb : Value) (N M : Nat) (w : World) (ha : NatV w va N 8) (hb : NatV w vb M 8) :
    Calls Tryd.prog 34 #[va, vb] w fun e w' => (∃ v, e = .returned v ∧ NatV w' v (N * M) 16) ∧ Below w.heap.size w w' := by
  obtain ⟨n, f, h1, h2, h3, _⟩ := ha
  obtain ⟨m, g, k1, k2, k3, _⟩ := hb
  rw [← h3, ← k3]
  refine (times_walk va vb n m f g w h2 k2 (by omega) (by omega)).mono fun e w' ⟨⟨v, he, n', f', p1, p2, p3, p4⟩, hw⟩ => ⟨⟨v, he, n', f', by omega, p2, p3, p4⟩, hw⟩
theorem quoRem_c (va vb : Value) (N M k : Nat) (w : World) (ha : NatV w va N k) (hb : NatV w vb M 8) (hk : k ≤ 20) (hM : M ≠ 0) :
    Calls Tryd.prog 33 #[va, vb] w fun e w' => (∃ q r, e = .returned (.tuple #[q, r]) ∧ NatV w' q (N / M) 20 ∧ NatV w' r (N % M) 20) ∧ Below w.heap.size w w' := by
  obtain ⟨n, f, h1, h2, h3, _⟩ := ha
  obtain ⟨m, g, k1, k2, k3, _⟩ := hb
  rw [← h3, ← k3]
  refine (quoRem_walk va vb n m f g w h2 k2 (by omega) (by omega)).mono fun e w' ⟨hr, hw⟩ => ⟨?_, hw⟩
  rcases hr with ⟨h5, _⟩ | ⟨_, q, r, he, ⟨n1, f1, p1, p2, p3, p4⟩, ⟨n2, f2, s1, s2, s3, s4⟩⟩
  · exact absurd (k3.symm.trans h5) hM
  · exact ⟨q, r, he, ⟨n1, f1, by omega, p2, p3, p4⟩, ⟨n2, f2, by omega, s2, s3, s4⟩⟩
theorem toU_c (v : Value) (N m : Nat) (w : World) (h : NatV w v N m) (hm : m ≤ 100) (hN : N < 2 ^ 256) : Calls Tryd.prog 35 #[v] w fun e w' => e = .returned (.tuple #[U N, .bool true]) ∧ Below w.heap.size w w' := by
  obtain ⟨n, f, h1, h2, h3, h4⟩ := h
  have hw := toU_walk v n f w h2 (by omega)
  rw [h3] at hw
  refine hw.mono fun e w' ⟨he, hb⟩ => ⟨?_, hb⟩
  rw [he, if_pos hN, decide_eq_true hN]

end Go.Proofs.YtomhbggfdjooaaaDoor
