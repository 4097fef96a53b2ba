/- The walk of slices.Grow of a nil slice of modes.
   Conditions: those that each statement names. -/
import Derived.Test.YtfgofmcpgfofaaaMerge
namespace Go.Proofs.Ytfgofmcpgfofaaa
open Go Go.RowKit

set_option maxRecDepth 100000 in
theorem grow_nil (n : Nat) (hn : n ≤ 64) (w : World) :
    Calls Try.prog 116 #[.slice none 0 0, .int .i64 (n : Int)] w (RowP [] w) := by
  have hb16 : Try.t38.bytes = 16 := rfl
  go_enter Try.func116, Try.ntmps116
  go_wp2_with fail
  all_goals try (rw [hb16] at *; omega)
  · have e : Builtin.nextslicecap n 0 = n := by unfold Builtin.nextslicecap; rw [if_pos (by omega)]
    simp only [e] at *
    omega
  · have hcap : n ≤ (Question.appendCap n 0 38).cut (w.tape w.drawn (Question.appendCap n 0 38)) ∧ (Question.appendCap n 0 38).cut (w.tape w.drawn (Question.appendCap n 0 38)) ≤ maxLen := by
      simp only [Question.cut]
      have hlt := Nat.mod_lt (w.tape w.drawn (Question.appendCap n 0 38)) (show 0 < 2 ^ 63 - n by omega)
      unfold maxLen
      omega
    generalize (Question.appendCap n 0 38).cut (w.tape w.drawn (Question.appendCap n 0 38)) = cp at *
    go_ret
    refine ⟨_, rfl, ?_, ((Nw.refl w).alloc _).draw 1⟩
    exact own_nw (World.ownsRow_made w _ cp (Nat.le_refl _) hcap.2 (by simp [Builtin.zeroCells]; omega)) ((Nw.refl _).draw 1)
  · go_ret
    exact ⟨_, rfl, World.ownsRow_nil _ _ _ _, Nw.refl _⟩
end Go.Proofs.Ytfgofmcpgfofaaa
