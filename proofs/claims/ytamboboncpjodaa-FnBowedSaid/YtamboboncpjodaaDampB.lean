/- The walk of DampBody over a valid body and a factor from 0 to 1.
   Conditions: those that each statement names. -/
import Derived.Test.YtamboboncpjodaaClone
import Derived.Test.YtamboboncpjodaaDamp
import Derived.Test.YtamboboncpjodaaTrajS
import Derived.Deep.RegionHeld3
import Derived.StillTailTactics
namespace Go.Proofs.Ytamboboncpjodaa
open Go Go.RowKit

def dampM (t : Nat) (m : M4) : M4 := ⟨opB .mul .f32 m.pr t, opB .mul .f32 m.pi t, m.gr, m.gi⟩

def dampL (ms : List M4) (t k : Nat) : List M4 := (ms.take k).map (dampM t) ++ ms.drop k
theorem dampL_len (ms : List M4) (t k : Nat) : (dampL ms t k).length = ms.length := by simp [dampL]; omega
theorem dampL_zero (ms : List M4) (t : Nat) : dampL ms t 0 = ms := by simp [dampL]
theorem dampL_full (ms : List M4) (t n : Nat) (h : ms.length = n) : dampL ms t n = ms.map (dampM t) := by
  simp [dampL, List.take_of_length_le (Nat.le_of_eq h), List.drop_of_length_le (Nat.le_of_eq h)]
theorem dampL_at (ms : List M4) (t k : Nat) (m : M4) (h : ms[k]? = some m) : (dampL ms t k)[k]? = some m := by
  obtain ⟨hk, he⟩ := List.getElem?_eq_some_iff.1 h
  unfold dampL
  rw [List.getElem?_append_right (by simp; omega)]
  simp only [List.length_map, List.length_take, Nat.min_eq_left (Nat.le_of_lt hk), Nat.sub_self, List.getElem?_drop, Nat.add_zero, h]
theorem cellsM_set (l : List M4) (k : Nat) (m m' : M4) (h : l[k]? = some m) (hg : m'.gr = m.gr ∧ m'.gi = m.gi) :
    (cellsM l).set (k * 2) (.complex .f32 m'.pr m'.pi) = cellsM (l.set k m') := by
  induction l generalizing k with
  | nil => simp at h
  | cons x l ih =>
    cases k with
    | zero =>
      simp at h
      subst h
      simp [cellsM, M4.cells, hg.1, hg.2]
    | succ k =>
      have hk := ih k (by simpa using h)
      simp only [cellsM, List.flatMap_cons, List.set_cons_succ] at *
      rw [show (k + 1) * 2 = k * 2 + 2 from by omega]
      simp only [M4.cells, List.cons_append, List.nil_append, List.set_cons_succ]
      rw [hk]
theorem dampL_set (ms : List M4) (t k : Nat) (m : M4) (h : ms[k]? = some m) : (dampL ms t k).set k (dampM t m) = dampL ms t (k + 1) := by
  obtain ⟨hk, he⟩ := List.getElem?_eq_some_iff.1 h
  unfold dampL
  rw [List.take_succ_eq_append_getElem hk, he, List.drop_eq_getElem_cons hk, he, List.set_append_right _ _ (by simp; omega)]
  simp [Nat.min_eq_left (Nat.le_of_lt hk)]

def DampP (n : Nat) (ms : List M4) (w : World) (e : Ending) (w' : World) : Prop :=
  ∃ v : Value, e = .returned (.tuple #[.agg #[v], .bool true]) ∧ w'.ownsRow w.heap.size 76 2 v n (cellsM ms) ∧ Nw w w'
def DampI (ms : List M4) (t n base D E : Nat) (v : Value) (w : World) (i : Value) (wr : World) : Prop :=
  ∃ k : Nat, k ≤ n ∧ i = .int .i64 (k : Int) ∧ wr.ownsRow base 76 2 v n (cellsM (dampL ms t k)) ∧ Has1 wr D (.slice none 0 0) ∧ Has1 wr E v ∧ Nw w wr

end Go.Proofs.Ytamboboncpjodaa
