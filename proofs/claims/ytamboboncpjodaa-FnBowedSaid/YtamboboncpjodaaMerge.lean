/- The walks of EqualSingle and mergeMode over modes with finite parts.
   Conditions: those that each statement names. -/
import Derived.Test.YtamboboncpjodaaTuneB
namespace Go.Proofs.Ytamboboncpjodaa
open Go Go.RowKit

def eqB (a b : Nat) : Bool := FloatKind.f32.format.order a b == some .eq

def poleEq (x m : M4) : Bool := eqB x.pr m.pr && eqB x.pi m.pi
def addG (x m : M4) : M4 := ⟨x.pr, x.pi, opB .add .f32 x.gr m.gr, opB .add .f32 x.gi m.gi⟩
/-- one mode more: added to the first one with an equal pole, or put at the end -/
def put1 : List M4 → M4 → List M4
  | [], m => [m]
  | x :: l, m => if poleEq x m then addG x m :: l else x :: put1 l m
theorem put1_none (l : List M4) (m : M4) (h : ∀ j : Nat, j < l.length → ∀ x, l[j]? = some x → poleEq x m = false) : put1 l m = l ++ [m] := by
  induction l with
  | nil => rfl
  | cons x l ih =>
    have h0 := h 0 (by simp) x rfl
    simp only [put1, h0, Bool.false_eq_true, if_false, List.cons_append]
    rw [ih (fun j hj y hy => h (j + 1) (by simp; omega) y (by simpa using hy))]
theorem put1_hit (l : List M4) (m : M4) (k : Nat) (x : M4) (hk : l[k]? = some x) (hx : poleEq x m = true) (h : ∀ j : Nat, j < k → ∀ x, l[j]? = some x → poleEq x m = false) : put1 l m = l.set k (addG x m) := by
  induction l generalizing k with
  | nil => simp at hk
  | cons y l ih =>
    cases k with
    | zero =>
      simp at hk
      subst hk
      simp [put1, hx]
    | succ k =>
      have h0 := h 0 (by omega) y rfl
      simp only [put1, h0, Bool.false_eq_true, if_false, List.set_cons_succ]
      rw [ih k (by simpa using hk) (fun j hj z hz => h (j + 1) (by omega) z (by simpa using hz))]
theorem put1_len (l : List M4) (m : M4) : (put1 l m).length = l.length ∨ (put1 l m).length = l.length + 1 := by
  induction l with
  | nil => right; rfl
  | cons x l ih =>
    unfold put1
    split
    · left; simp
    · rcases ih with h | h <;> simp [h]

theorem cellsM_setG (l : List M4) (k : Nat) (m m' : M4) (h : l[k]? = some m) (hg : m'.pr = m.pr ∧ m'.pi = m.pi) :
    (cellsM l).set (k * 2 + 1) (.complex .f32 m'.gr m'.gi) = cellsM (l.set k m') := by
  induction l generalizing k with
  | nil => simp at h
  | cons x l ih =>
    cases k with
    | zero =>
      simp at h
      subst h
      simp [cellsM, M4.cells, hg.1, hg.2]
    | succ k =>
      have hk := ih k (by simpa using h)
      simp only [cellsM, List.flatMap_cons, List.set_cons_succ] at *
      rw [show (k + 1) * 2 + 1 = k * 2 + 1 + 2 from by omega]
      simp only [M4.cells, List.cons_append, List.nil_append, List.set_cons_succ]
      rw [hk]

def MergeP (base : Nat) (v : Value) (out : List M4) (w : World) (e : Ending) (w' : World) : Prop :=
  ∃ v', e = .returned v' ∧ w'.ownsRow base 76 2 v' out.length (cellsM out) ∧ w.grownBy w' v.ownBlock
def MergeI (out : List M4) (m : M4) (n base : Nat) (v : Value) (b : Nat) (w : World) (i : Value) (wr : World) : Prop :=
  ∃ k : Nat, k ≤ n ∧ i = .int .i64 (k : Int) ∧ (∀ j : Nat, j < k → ∀ x, out[j]? = some x → poleEq x m = false) ∧ wr.ownsRow base 76 2 v n (cellsM out) ∧ HasMode wr b m.pr m.pi m.gr m.gi ∧ w.grownBy wr v.ownBlock

end Go.Proofs.Ytamboboncpjodaa
