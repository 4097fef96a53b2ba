/- The walks of slices.Clone over a body's modes.
   Conditions: those that each statement names. -/
import Derived.Test.YtcodiiajmffdoaaIsBody
import Derived.Lib.SliceRun
namespace Go.Proofs.Ytcodiiajmffdoaa
open Go Go.RowKit

theorem Nw.grown {a w w1 : World} {row : Option Nat} (h : Nw a w) (hg : w.grownBy w1 row) (hr : ∀ q, row = some q → a.heap.size ≤ q) : Nw a w1 :=
  ⟨hg.os.trans h.os, hg.tape.trans h.tape, hg.output.trans h.output, Nat.le_trans h.size hg.size, fun i hi hne => (hg.block i (Nat.lt_of_lt_of_le hi h.size) (fun e => by have := hr i e.symm; omega)).trans (h.block i hi hne)⟩

def RowP (ms : List M4) (w : World) (e : Ending) (w' : World) : Prop :=
  ∃ v : Value, e = .returned v ∧ w'.ownsRow w.heap.size 42 2 v ms.length (cellsM ms) ∧ Nw w w'

end Go.Proofs.Ytcodiiajmffdoaa
