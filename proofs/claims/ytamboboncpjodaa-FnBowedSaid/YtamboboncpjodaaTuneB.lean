/- The walk of TuneBody over a valid body and the number 1.
   Conditions: those that each statement names. -/
import Derived.Test.YtamboboncpjodaaLess
import Derived.Deep.RegionHeld3
import Derived.StillTailTactics
namespace Go.Proofs.Ytamboboncpjodaa
open Go Go.RowKit

theorem tune_part1 (m : M4) (h : m.ok) : PartOk .sub m.pr 1065353216 m.pi 0 (S m.pr * S 1065353216 - S m.pi * S 0) 4 4 := by
  obtain ⟨s1, s2, s3, s4⟩ := h.nums
  obtain ⟨p1, p2⟩ := h.pole
  have l1 : (4 : Rat) ≤ Flo.pw 120 := by
    have : Flo.pw 2 ≤ Flo.pw 120 := Flo.pw_le (by omega)
    rw [show Flo.pw 2 = 4 from Flo.pw_nat 2] at this
    exact this
  have l2 : (4 : Rat) ≤ Flo.pw 125 := by
    have : Flo.pw 2 ≤ Flo.pw 125 := Flo.pw_le (by omega)
    rw [show Flo.pw 2 = 4 from Flo.pw_nat 2] at this
    exact this
  refine part_sub m.pr 1065353216 m.pi 0 s1 one_s.1 s2 nil_s.1 4 4 ?_ ?_ ?_ l1 l2
  all_goals (try rw [one_s.2]) <;> (try rw [nil_s.2])
  all_goals (unfold Flo.Ab at *; constructor <;> grind)
theorem tune_part2 (m : M4) (h : m.ok) : PartOk .add m.pr 0 m.pi 1065353216 (S m.pr * S 0 + S m.pi * S 1065353216) 4 4 := by
  obtain ⟨s1, s2, s3, s4⟩ := h.nums
  obtain ⟨p1, p2⟩ := h.pole
  have l1 : (4 : Rat) ≤ Flo.pw 120 := by
    have : Flo.pw 2 ≤ Flo.pw 120 := Flo.pw_le (by omega)
    rw [show Flo.pw 2 = 4 from Flo.pw_nat 2] at this
    exact this
  have l2 : (4 : Rat) ≤ Flo.pw 125 := by
    have : Flo.pw 2 ≤ Flo.pw 125 := Flo.pw_le (by omega)
    rw [show Flo.pw 2 = 4 from Flo.pw_nat 2] at this
    exact this
  refine part_add m.pr 0 m.pi 1065353216 s1 nil_s.1 s2 one_s.1 4 4 ?_ ?_ ?_ l1 l2
  all_goals (try rw [one_s.2]) <;> (try rw [nil_s.2])
  all_goals (unfold Flo.Ab at *; constructor <;> grind)

def tuneL (ms : List M4) (k : Nat) : List M4 := (ms.take k).map tuneM ++ ms.drop k
theorem tuneL_len (ms : List M4) (k : Nat) : (tuneL ms k).length = ms.length := by simp [tuneL]; omega
theorem tuneL_zero (ms : List M4) : tuneL ms 0 = ms := by simp [tuneL]
theorem tuneL_full (ms : List M4) (n : Nat) (h : ms.length = n) : tuneL ms n = ms.map tuneM := by
  simp [tuneL, List.take_of_length_le (Nat.le_of_eq h), List.drop_of_length_le (Nat.le_of_eq h)]
theorem tuneL_at (ms : List M4) (k : Nat) (m : M4) (h : ms[k]? = some m) : (tuneL ms k)[k]? = some m := by
  obtain ⟨hk, he⟩ := List.getElem?_eq_some_iff.1 h
  unfold tuneL
  rw [List.getElem?_append_right (by simp; omega)]
  simp only [List.length_map, List.length_take, Nat.min_eq_left (Nat.le_of_lt hk), Nat.sub_self, List.getElem?_drop, Nat.add_zero, h]
theorem tuneL_set (ms : List M4) (k : Nat) (m : M4) (h : ms[k]? = some m) : (tuneL ms k).set k (tuneM m) = tuneL ms (k + 1) := by
  obtain ⟨hk, he⟩ := List.getElem?_eq_some_iff.1 h
  unfold tuneL
  rw [List.take_succ_eq_append_getElem hk, he, List.drop_eq_getElem_cons hk, he, List.set_append_right _ _ (by simp; omega)]
  simp [Nat.min_eq_left (Nat.le_of_lt hk)]

def TuneI (ms : List M4) (n base D E : Nat) (v : Value) (w : World) (i : Value) (wr : World) : Prop :=
  ∃ k : Nat, k ≤ n ∧ i = .int .i64 (k : Int) ∧ wr.ownsRow base 76 2 v n (cellsM (tuneL ms k)) ∧ Has1 wr D (.slice none 0 0) ∧ Has1 wr E v ∧ Nw w wr

end Go.Proofs.Ytamboboncpjodaa
