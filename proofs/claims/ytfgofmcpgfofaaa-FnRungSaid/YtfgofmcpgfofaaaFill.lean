/- Rows of samples that are filled from their beginning.
   Conditions: those that each statement names. -/
import Derived.Test.YtfgofmcpgfofaaaRingB
namespace Go.Proofs.Ytfgofmcpgfofaaa
open Go Go.RowKit

/-- the first k places of n are filled -/
def fillL (f : Nat → Nat) (n k : Nat) : List Nat := (List.range k).map f ++ List.replicate (n - k) 0
theorem fillL_zero (f : Nat → Nat) (n : Nat) : fillL f n 0 = List.replicate n 0 := by simp [fillL]
theorem fillL_full (f : Nat → Nat) (n : Nat) : fillL f n n = (List.range n).map f := by simp [fillL]
theorem fillL_len (f : Nat → Nat) (n k : Nat) (h : k ≤ n) : (fillL f n k).length = n := by simp [fillL]; omega
theorem fillL_set (f : Nat → Nat) (n k : Nat) (h : k < n) : (cellsS (fillL f n k)).set k (.float .f32 (f k)) = cellsS (fillL f n (k + 1)) := by
  unfold fillL
  rw [show n - k = (n - (k + 1)) + 1 from by omega, List.replicate_succ, List.range_succ]
  simp only [cellsS, List.map_append, List.map_cons, List.map_nil, List.append_assoc, List.singleton_append]
  rw [List.set_append_right _ _ (by simp)]
  simp
theorem fillL_cell (f : Nat → Nat) (n k : Nat) (h : k < n) : (cellsS (fillL f n k))[k]? = some (.float .f32 0) := by
  unfold fillL cellsS
  rw [List.getElem?_map, List.getElem?_append_right (by simp)]
  simp [List.getElem?_replicate]
  omega

theorem ringBody_ok' (ms : List M4) (hms : ∀ m ∈ ms, m.ok) (xs : List Nat) (n q p bm bi : Nat) (v iv : Value) (hq : ms.length = q) (hq16 : q ≤ 16) (hp : xs.length = p) (hxl : p ≤ 1048576) (hn : n ≤ 2000) (w : World)
    (hm : w.ownsRow bm 38 2 v q (cellsM ms)) (hi : w.ownsRow bi 49 1 iv p (cellsS xs)) (hok : RingOk ms (inputOf xs) n) :
    Calls Try.prog 32 #[.agg #[v], iv, .int .i64 (n : Int)] w (RingP w.heap.size (ringS ms (inputOf xs) n) w) := by
  subst hp
  exact ringBody_ok ms hms xs n q bm bi v iv hq hq16 hxl hn w hm hi hok

theorem ringBody_some' (ms : List M4) (hms : ∀ m ∈ ms, m.ok) (xs : List Nat) (n q p bm bi : Nat) (v iv : Value) (hq : ms.length = q) (hq16 : q ≤ 16) (hp : xs.length = p) (hxl : p ≤ 1048576) (hn : n ≤ 2000) (w : World)
    (hm : w.ownsRow bm 38 2 v q (cellsM ms)) (hi : w.ownsRow bi 49 1 iv p (cellsS xs)) (hok : RingOk ms (inputOf xs) n) :
    Calls Try.prog 32 #[.agg #[v], iv, .int .i64 (n : Int)] w (RingP2 w.heap.size (ringS ms (inputOf xs) n) n w) := by
  subst hp
  exact ringBody_some ms hms xs n q bm bi v iv hq hq16 hxl hn w hm hi hok
end Go.Proofs.Ytfgofmcpgfofaaa
