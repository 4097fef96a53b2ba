/- The walks of PitchOf, the program's and the model's; the laws FnExactCrossingsOf and FnExactPitchOf.
   Conditions: those that each statement names. -/
import Derived.Test.YtcodiiajmffdoaaCross
import Derived.Test.YtcodiiajmffdoaaRows
namespace Go.Proofs.Ytcodiiajmffdoaa
open Go Go.RowKit

/-- the pitch, but for the bits of NaN -/
def pitchA (zs : List Nat) (n : Nat) (r : Int) : Option Nat :=
  if n = 0 then fab .f64 0 else fA .quo .f64 (fA .mul .f64 (fab .f64 (floatOfInt .f64 (crN zs (n - 1) : Int))) (fab .f64 (floatOfInt .f64 r))) (fab .f64 (floatOfInt .f64 (n : Int)))
def PiP (zs : List Nat) (n : Nat) (r : Int) (w : World) (e : Ending) (w' : World) : Prop := ∃ s, e = .returned (.float .f64 s) ∧ fab .f64 s = pitchA zs n r ∧ Nw w w'

theorem implPitch_ok (zs : List Nat) (n b : Nat) (v : Value) (r : Int) (hl : zs.length = n) (hn : n ≤ 1048576) (w : World) (h : w.ownsRow b 25 1 v n (cellsS zs)) :
    Calls Try.prog 19 #[v, .int .i64 r] w (PiP zs n r w) := by
  obtain ⟨va, vc, rfl⟩ := own_shape' h
  have H := Lib.hid h
  clear h
  by_cases h0 : n = 0
  · subst h0
    go_enter Try.func19, Try.ntmps19
    go_wp2
    go_ret
    exact ⟨_, rfl, by unfold pitchA; rw [if_pos rfl], Nw.refl _⟩
  · have h1 : ¬ ((n : Int) = 0) := by omega
    go_enter Try.func19, Try.ntmps19
    go_wp2_with fail
    refine (implCross_ok zs n b _ hl hn _ H.out).mono ?_
    rintro e w1 ⟨rfl, n1⟩
    have N1 := Lib.hid n1
    clear n1
    go_wp2_with fail
    go_ret
    exact ⟨_, rfl, by unfold pitchA; rw [if_neg h0, fab_fres, fab_fres], N1.out.trans ⟨rfl, rfl, rfl, Nat.le_refl _, fun _ _ _ => rfl⟩⟩

theorem specPitch_ok (zs : List Nat) (n b : Nat) (v : Value) (r : Int) (hl : zs.length = n) (hn : n ≤ 1048576) (w : World) (h : w.ownsRow b 25 1 v n (cellsS zs)) :
    Calls Try.prog 37 #[v, .int .i64 r] w (PiP zs n r w) := by
  obtain ⟨va, vc, rfl⟩ := own_shape' h
  have H := Lib.hid h
  clear h
  by_cases h0 : n = 0
  · subst h0
    go_enter Try.func37, Try.ntmps37
    go_wp2
    go_ret
    exact ⟨_, rfl, by unfold pitchA; rw [if_pos rfl], Nw.refl _⟩
  · have h1 : ¬ ((n : Int) = 0) := by omega
    go_enter Try.func37, Try.ntmps37
    go_wp2_with fail
    refine (specCross_ok zs n b _ hl hn _ H.out).mono ?_
    rintro e w1 ⟨rfl, n1⟩
    have N1 := Lib.hid n1
    clear n1
    go_wp2_with fail
    go_ret
    exact ⟨_, rfl, by unfold pitchA; rw [if_neg h0, fab_fres, fab_fres], N1.out.trans ⟨rfl, rfl, rfl, Nat.le_refl _, fun _ _ _ => rfl⟩⟩

end Go.Proofs.Ytcodiiajmffdoaa
