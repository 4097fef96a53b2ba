/- Absolute values of single precision: the walk of absoluteSingle.
   Conditions: those that each statement names. -/
import Derived.Test.YtfgofmcpgfofaaaTw
namespace Go.Proofs.Ytfgofmcpgfofaaa
open Go Go.RowKit

theorem implAbs_wide (x : Nat) (hx : nan32 x = false) (w : World) :
    Calls Try.prog 97 #[.float .f32 x] w fun e w' => (∃ p, e = .returned (.float .f32 p) ∧ Tw p (labs (wid x))) ∧ w = w' := by
  have a1 := fcv_wide hx
  have a2 := fcd_wide hx
  have a3 := fun w => (tw_abs hx w).2
  have a3 := a3 w
  have lt := wid_lt x
  go_enter Try.func97, Try.ntmps97
  go_wp2_with (go_at_call 76; refine (abs_any _ _ lt).mono ?_; rintro e w' ⟨rfl, rfl⟩)
  all_goals (go_ret; exact ⟨⟨_, rfl, (tw_abs hx _).1⟩, rfl⟩)
theorem nan_abs {z : Nat} (h : nan64 z = true) (w : World) : nan32 (fcv w .f64 (z % signBit) .f32) = true := by
  unfold nan64 at h
  have hm := mod_read z
  cases hd : FloatKind.f64.decode z with
  | number s m p => rw [hd] at h; cases h
  | infinity s => rw [hd] at h; cases h
  | nan s f =>
    rw [hd] at hm
    unfold fcv
    rw [if_neg (by decide), hm]
    exact nan_conv _ _ _
theorem nan_order {k : FloatKind} {z : Nat} (h : (k.decode z).isNaN = true) (b : Nat) : (k.format.order z b == some .gt) = false := by
  unfold Ieee.Format.order
  unfold FloatKind.decode at h
  cases hd : k.format.read z <;> rw [hd] at h <;> simp [Ieee.Datum.isNaN] at h
  simp [Ieee.Datum.order]
theorem nan_labs {z : Nat} (h : nan64 z = true) : labs z = z := by
  have h0 : FloatKind.f64.format.order z 0 = none := by
    unfold Ieee.Format.order
    unfold nan64 FloatKind.decode at h
    cases hd : FloatKind.f64.format.read z <;> rw [hd] at h <;> simp [Ieee.Datum.isNaN] at h
    simp [Ieee.Datum.order]
  unfold labs; rw [h0]; simp
theorem implAbs_nan (x : Nat) (hx : nan32 x = true) (h32 : x < 2 ^ 32) (w : World) :
    Calls Try.prog 97 #[.float .f32 x] w fun e w' => (∃ p, e = .returned (.float .f32 p) ∧ nan32 p = true) ∧ Nw w w' := by
  have lt := fun w => fcv_wf w .f32 x .f64 (show x < 2 ^ FloatKind.f32.format.width from h32)
  have hn := fun w => nan_wide hx w
  go_enter Try.func97, Try.ntmps97
  go_wp2_with (go_at_call 76; refine (abs_any _ _ (lt _)).mono ?_; rintro e w' ⟨rfl, rfl⟩)
  all_goals (go_ret; exact ⟨⟨_, rfl, nan_abs (hn _) _⟩, ⟨rfl, rfl, rfl, Nat.le_refl _, fun _ _ _ => rfl⟩⟩)

end Go.Proofs.Ytfgofmcpgfofaaa
