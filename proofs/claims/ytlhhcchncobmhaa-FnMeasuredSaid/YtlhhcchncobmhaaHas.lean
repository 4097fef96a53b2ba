/- Boxes of two cells.
   Conditions: none. -/
import Derived.Test.YtlhhcchncobmhaaScoD
namespace Go.Proofs.Ytlhhcchncobmhaa
set_option linter.unusedSimpArgs false
set_option linter.unusedVariables false
open Go Go.RowKit

theorem new2 (w : World) (T : TypeId) (v0 v1 : Value) : HasC (w.alloc (.cells #[v0, v1] T (0, 0))) w.heap.size [v0, v1] := by
  refine ⟨by simp, fun k v hk => ?_⟩
  match k, hk with
  | 0, hk => simp at hk; subst hk; exact ⟨by go_simp, by go_simp⟩
  | 1, hk => simp at hk; subst hk; exact ⟨by go_simp, by go_simp⟩
  | k + 2, hk => simp at hk
theorem two_at {w : World} {b : Nat} {v0 v1 : Value} (h : HasC w b [v0, v1]) :
    (w.cell? ⟨b, 0, none⟩ = some v0 ∧ w.frozen? ⟨b, 0, none⟩ = false) ∧ (w.cell? ⟨b, 1, none⟩ = some v1 ∧ w.frozen? ⟨b, 1, none⟩ = false) :=
  ⟨h.2 0 _ rfl, h.2 1 _ rfl⟩


end Go.Proofs.Ytlhhcchncobmhaa
