/- The sum of "abc": the document's example, reckoned. -/
import Derived.Test.YtjemgoifemdoeaaHq
namespace Go.Proofs.Ytjemgoifemdoeaa
open Go.RowKit

def KL : List Nat := [1116352408, 1899447441, 3049323471, 3921009573, 961987163, 1508970993, 2453635748, 2870763221, 3624381080, 310598401, 607225278, 1426881987, 1925078388, 2162078206, 2614888103, 3248222580, 3835390401, 4022224774, 264347078, 604807628, 770255983, 1249150122, 1555081692, 1996064986, 2554220882, 2821834349, 2952996808, 3210313671, 3336571891, 3584528711, 113926993, 338241895, 666307205, 773529912, 1294757372, 1396182291, 1695183700, 1986661051, 2177026350, 2456956037, 2730485921, 2820302411, 3259730800, 3345764771, 3516065817, 3600352804, 4094571909, 275423344, 430227734, 506948616, 659060556, 883997877, 958139571, 1322822218, 1537002063, 1747873779, 1955562222, 2024104815, 2227730452, 2361852424, 2428436474, 2756734187, 3204031479, 3329325298]
def HL : List Nat := [1779033703, 3144134277, 1013904242, 2773480762, 1359893119, 2600822924, 528734635, 1541459225]
theorem cubeK_KL {i : Nat} (h : i < 64) : cubeK i = KL.getD i 0 := cubeK_is ⟨i, h⟩
theorem sqH_HL {i : Nat} (h : i < 8) : sqH i = HL.getD i 0 := sqH_is ⟨i, h⟩
theorem rnds_congr {K K' : Nat → Nat} (l : List Nat) (s : St) : ∀ n, (∀ i, i < n → K i = K' i) → rnds K l s n = rnds K' l s n
  | 0, _ => rfl
  | n + 1, h => by
    show (rnds K l s n).turn _ _ = (rnds K' l s n).turn _ _
    rw [rnds_congr l s n (fun i hi => h i (by omega)), h n (by omega)]
theorem st_sqH : St.of sqH = St.of (fun i => HL.getD i 0) := by
  unfold St.of
  rw [sqH_HL (i := 0) (by omega), sqH_HL (i := 1) (by omega), sqH_HL (i := 2) (by omega), sqH_HL (i := 3) (by omega), sqH_HL (i := 4) (by omega), sqH_HL (i := 5) (by omega), sqH_HL (i := 6) (by omega), sqH_HL (i := 7) (by omega)]
def abcF (i : Nat) : Nat := if i = 0 then 97 else if i = 1 then 98 else if i = 2 then 99 else 0
def abcW : List Nat := [1633837952, 0, 0, 0, 0, 0, 0, 0, 0, 0, 0, 0, 0, 0, 0, 24, 1633837952, 983040, 2108187653, 1610613702, 1050508152, 25426944, 316456923, 3806512014, 3357629466, 3073800610, 3854317833, 845560923, 2636160359, 3968280267, 1881225380, 3552024379, 2482346367, 996719219, 2952069057, 4043988066, 176896406, 1924104970, 2483675966, 610538786, 2672279444, 4037431130, 1042573945, 657669027, 206005234, 2215296807, 2049510749, 106709978, 4215179723, 3430291419, 3118885940, 2845390439, 2226839261, 3256115900, 344409900, 2987358873, 4015503821, 3957764664, 2682456414, 2025622859, 2755645205, 1720397816, 4004225740, 313650667]
theorem abc_msg : msg (fun i => padB 3 abcF (64 * 0 + i)) 64 = abcW := by decide +kernel
def abcS : St := ⟨1349398616, 3550093669, 80891244, 3093179625, 1593118500, 4212265488, 2492278198, 2518632596⟩
theorem abc_rnds : rnds (fun i => KL.getD i 0) abcW (St.of (fun i => HL.getD i 0)) 64 = abcS := by kernel_rfl
theorem abc_hash {i : Nat} (h : i < 8) : hashN (padB 3 abcF) 1 i = (HL.getD i 0 + abcS.at i) % 2 ^ 32 := by
  show (sqH i + (rnds cubeK (msg _ 64) (St.of sqH) 64).at i) % 2 ^ 32 = _
  rw [abc_msg, st_sqH, rnds_congr abcW _ 64 (fun i hi => cubeK_KL hi), abc_rnds, sqH_HL h]
def abcH (i : Nat) : Nat := ((HL.getD (i / 4) 0 + abcS.at (i / 4)) % 2 ^ 32) >>> (24 - i % 4 * 8) % 256
theorem abc_sum {i : Nat} (h : i < 32) : shaF 3 abcF i = abcH i := by
  show hashN (padB 3 abcF) 1 (i / 4) >>> _ % 256 = _
  rw [abc_hash (by omega)]; rfl
theorem abc_hex {i : Nat} (h : i < 64) : hexF (shaF 3 abcF) i = hexF abcH i := by
  unfold hexF
  rw [abc_sum (by omega)]
theorem abc_lit : strOfNums ((List.range 64).map (fun i => (hexF abcH i : Int))) = { data := #[98, 97, 55, 56, 49, 54, 98, 102, 56, 102, 48, 49, 99, 102, 101, 97, 52, 49, 52, 49, 52, 48, 100, 101, 53, 100, 97, 101, 50, 50, 50, 51, 98, 48, 48, 51, 54, 49, 97, 51, 57, 54, 49, 55, 55, 97, 57, 99, 98, 52, 49, 48, 102, 102, 54, 49, 102, 50, 48, 48, 49, 53, 97, 100] } := by kernel_rfl
theorem abc_text : txt (hexF (shaF 3 abcF)) 64 = { data := #[98, 97, 55, 56, 49, 54, 98, 102, 56, 102, 48, 49, 99, 102, 101, 97, 52, 49, 52, 49, 52, 48, 100, 101, 53, 100, 97, 101, 50, 50, 50, 51, 98, 48, 48, 51, 54, 49, 97, 51, 57, 54, 49, 55, 55, 97, 57, 99, 98, 52, 49, 48, 102, 102, 54, 49, 102, 50, 48, 48, 49, 53, 97, 100] } := by
  have e : (List.range 64).map (fun i => (hexF (shaF 3 abcF) i : Int)) = (List.range 64).map (fun i => (hexF abcH i : Int)) := List.map_congr_left fun i hi => by rw [abc_hex (List.mem_range.1 hi)]
  exact (congrArg strOfNums e).trans abc_lit
end Go.Proofs.Ytjemgoifemdoeaa
