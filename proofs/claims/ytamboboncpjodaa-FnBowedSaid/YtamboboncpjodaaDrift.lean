/- The walk of DriftOf, where nothing overflows: the drift is at most what each difference is.
   Conditions: those that each statement names. -/
import Derived.Test.YtamboboncpjodaaRingD
namespace Go.Proofs.Ytamboboncpjodaa
open Go Go.RowKit

/-- each difference between the two ringings is at most Bd -/
def DiffOk (ms : List M4) (x : Nat → Nat) (n : Nat) (Bd : Rat) : Prop :=
  ∀ i, i < n → Sm (outS (stAt ms x (i + 1))) ∧ ∃ r, floatBits .sub .f64 (outD (stDAt ms x (i + 1))) (wid (outS (stAt ms x (i + 1)))) = some r ∧ Flo.Nm r ∧ Flo.Ab (Flo.W r) Bd

def DriftP (Bd : Rat) (w : World) (e : Ending) (w' : World) : Prop :=
  ∃ g : Nat, e = .returned (.tuple #[.float .f64 g, .bool true]) ∧ Flo.Nm g ∧ Flo.W g ≤ Bd ∧ Nw w w'
def DriftI (Bd : Rat) (n : Nat) (w : World) (y i : Value) (wr : World) : Prop :=
  ∃ k g : Nat, k ≤ n ∧ i = .int .i64 (k : Int) ∧ y = .float .f64 g ∧ Flo.Nm g ∧ Flo.W g ≤ Bd ∧ Nw w wr

theorem own_f64 {w : World} {base n k : Nat} {v : Value} {xs : List Nat} (h : w.ownsRow base 50 1 v n (cellsF xs)) {x : Nat} (hk : xs[k]? = some x) (hn : n = xs.length) :
    ∃ g cap, v = .slice (some ⟨g, 0, none⟩) n cap ∧ n ≤ cap ∧ cap ≤ maxLen ∧ g < w.heap.size ∧ w.cell? ⟨g, k, none⟩ = some (.float .f64 x) := by
  have hkl := (List.getElem?_eq_some_iff.1 hk).1
  rcases h.2 with ⟨_, h0⟩ | ⟨g, cap, cur, rfl, hb, hg, hc, hm, hs, ht⟩
  · omega
  · have c1 := h.cellAt k (by omega)
    rw [show (cellsF xs)[k]? = some (.float .f64 x) from by simp [cellsF, hk]] at c1
    exact ⟨g, cap, rfl, hc, hm, (h.lt g rfl).2, c1⟩

end Go.Proofs.Ytamboboncpjodaa
