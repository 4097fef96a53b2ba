/- Rows of samples that are filled from their beginning.
   Conditions: those that each statement names. -/
import Derived.Test.YtcodiiajmffdoaaRingB
namespace Go.Proofs.Ytcodiiajmffdoaa
open Go Go.RowKit

/-- the first k places of n are filled -/
def fillL (f : Nat → Nat) (n k : Nat) : List Nat := (List.range k).map f ++ List.replicate (n - k) 0
theorem fillL_zero (f : Nat → Nat) (n : Nat) : fillL f n 0 = List.replicate n 0 := by simp [fillL]
theorem fillL_full (f : Nat → Nat) (n : Nat) : fillL f n n = (List.range n).map f := by simp [fillL]
theorem fillL_len (f : Nat → Nat) (n k : Nat) (h : k ≤ n) : (fillL f n k).length = n := by simp [fillL]; omega
theorem fillL_set (f : Nat → Nat) (n k : Nat) (h : k < n) : (cellsS (fillL f n k)).set k (.float .f32 (f k)) = cellsS (fillL f n (k + 1)) := by
  unfold fillL
  rw [show n - k = (n - (k + 1)) + 1 from by omega, List.replicate_succ, List.range_succ]
  simp only [cellsS, List.map_append, List.map_cons, List.map_nil, List.append_assoc, List.singleton_append]
  rw [List.set_append_right _ _ (by simp)]
  simp
theorem fillL_cell (f : Nat → Nat) (n k : Nat) (h : k < n) : (cellsS (fillL f n k))[k]? = some (.float .f32 0) := by
  unfold fillL cellsS
  rw [List.getElem?_map, List.getElem?_append_right (by simp)]
  simp [List.getElem?_replicate]
  omega

end Go.Proofs.Ytcodiiajmffdoaa
