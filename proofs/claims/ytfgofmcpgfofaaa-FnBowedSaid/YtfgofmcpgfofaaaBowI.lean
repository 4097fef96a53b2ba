/- The walks of bowSticks and BowForce, for all numbers.
   Conditions: those that each statement names. -/
import Derived.Test.YtfgofmcpgfofaaaAbs
import Derived.Laws.Cover2
namespace Go.Proofs.Ytfgofmcpgfofaaa
open Go Go.RowKit

/-- does the bow stick? -/
def stickB (d g : Nat) : Bool := !nan32 g && (FloatKind.f64.format.order (labs (wid d)) (wid g) == some .lt || FloatKind.f64.format.order (labs (wid d)) (wid g) == some .eq)
/-- the force, but for the bits of NaN -/
def forceA (bow vel grip : Nat) : Option Nat :=
  match floatBits .sub .f32 bow vel with
  | some d => if stickB d grip then some d else fA .quo .f32 (fA .mul .f32 (fab .f32 grip) (fab .f32 grip)) (some d)
  | none => none
def BowP (bow vel grip : Nat) (w : World) (e : Ending) (w' : World) : Prop := ∃ r, e = .returned (.float .f32 r) ∧ fab .f32 r = forceA bow vel grip ∧ Nw w w'
def BowP2 (bow vel grip : Nat) (w : World) (e : Ending) (w' : World) : Prop := ∃ r b, e = .returned (.tuple #[.float .f32 r, .bool b]) ∧ fab .f32 r = forceA bow vel grip ∧ Nw w w'

theorem nan_right {k : FloatKind} {z : Nat} (h : (k.decode z).isNaN = true) (b : Nat) (o : Ordering) : (k.format.order b z == some o) = false := by
  unfold Ieee.Format.order
  unfold FloatKind.decode at h
  cases hd : k.format.read z <;> rw [hd] at h <;> simp [Ieee.Datum.isNaN] at h
  cases k.format.read b <;> simp [Ieee.Datum.order]
theorem nan_left {k : FloatKind} {z : Nat} (h : (k.decode z).isNaN = true) (b : Nat) (o : Ordering) : (k.format.order z b == some o) = false := by
  unfold Ieee.Format.order
  unfold FloatKind.decode at h
  cases hd : k.format.read z <;> rw [hd] at h <;> simp [Ieee.Datum.isNaN] at h
  simp [Ieee.Datum.order]

theorem sticks_wide (d g : Nat) (hd : nan32 d = false) (w : World) :
    Calls Try.prog 90 #[.float .f32 d, .float .f32 g] w fun e w' => e = .returned (.bool (stickB d g)) ∧ w = w' := by
  go_enter Try.func90, Try.ntmps90
  go_wp2_with fail
  refine (implAbs_wide d hd _).mono ?_
  rintro e w1 ⟨⟨q, rfl, hq⟩, rfl⟩
  have hr : (FloatKind.f32.format.order q g == some .lt || FloatKind.f32.format.order q g == some .eq) = stickB d g := by
    unfold stickB
    cases hg : nan32 g with
    | true => rw [nan_right (k := .f32) hg, nan_right (k := .f32) hg]; rfl
    | false => rw [show FloatKind.f64.format.order (labs (wid d)) (wid g) = FloatKind.f32.format.order q g from hq.order_wid hg]; rfl
  go_wp2
  go_ret
  exact ⟨by simp, rfl⟩
theorem sticks_nan (d g : Nat) (hd : nan32 d = true) (h32 : d < 2 ^ 32) (w : World) :
    Calls Try.prog 90 #[.float .f32 d, .float .f32 g] w fun e w' => e = .returned (.bool false) ∧ Nw w w' := by
  go_enter Try.func90, Try.ntmps90
  go_wp2_with fail
  refine (implAbs_nan d hd h32 _).mono ?_
  rintro e w1 ⟨⟨q, rfl, hq⟩, n1⟩
  have h1 := nan_left (k := .f32) hq g .lt
  have h2 := nan_left (k := .f32) hq g .eq
  have N1 := Lib.hid n1
  clear n1
  go_wp2
  go_ret
  exact ⟨by simp_all, N1.out⟩

theorem sub_nan {bow vel : Nat} (h : floatBits .sub .f32 bow vel = none) (w : World) : nan32 (fres w .sub .f32 bow vel) = true := by
  unfold fres; rw [h]; exact nan_cut _ _ _ _
theorem fA_none_right (op : BinOp) (k : FloatKind) (a : Option Nat) : fA op k a none = none := by cases a <;> rfl

theorem implBow_ok (bow vel grip : Nat) (w : World) :
    Calls Try.prog 42 #[.float .f32 bow, .float .f32 vel, .float .f32 grip] w (BowP bow vel grip w) := by
  cases hs : floatBits .sub .f32 bow vel with
  | some d =>
    have hd : nan32 d = false := (floatBits_not_nan hs).1
    have r1 : ∀ w, fres w .sub .f32 bow vel = d := fun w => by unfold fres; rw [hs]
    have d1 : fdr .sub .f32 bow vel = 0 := by unfold fdr; rw [hs]; rfl
    cases hst : stickB d grip with
    | true =>
      go_enter Try.func42, Try.ntmps42
      go_wp2_with fail
      refine (sticks_wide d grip hd _).mono ?_
      rintro e w1 ⟨rfl, rfl⟩
      rw [hst]
      go_wp2
      go_ret
      exact ⟨_, rfl, by unfold forceA; rw [hs]; simp only [hst, if_true]; exact fab_some hd, Nw.refl _⟩
    | false =>
      go_enter Try.func42, Try.ntmps42
      go_wp2_with fail
      refine (sticks_wide d grip hd _).mono ?_
      rintro e w1 ⟨rfl, rfl⟩
      rw [hst]
      go_wp2
      go_ret
      exact ⟨_, rfl, by unfold forceA; rw [hs]; simp only [hst, Bool.false_eq_true, if_false]; rw [fab_fres, fab_fres, fab_some hd], ⟨rfl, rfl, rfl, Nat.le_refl _, fun _ _ _ => rfl⟩⟩
  | none =>
    have hn := sub_nan hs
    have lt := fun w => fres_wf w .sub .f32 bow vel
    have Hs := Lib.hid hs
    clear hs
    go_enter Try.func42, Try.ntmps42
    go_wp2_with fail
    refine (sticks_nan _ grip (hn _) (lt _) _).mono ?_
    rintro e w1 ⟨rfl, n1⟩
    have N1 := Lib.hid n1
    clear n1
    go_wp2
    go_ret
    refine ⟨_, rfl, ?_, ?_⟩
    · unfold forceA; rw [Hs.out]
      simp only
      rw [fab_fres, fab_none (hn _), fA_none_right]
    · exact ((Nw.refl w).draw _).trans (N1.out.trans ⟨rfl, rfl, rfl, Nat.le_refl _, fun _ _ _ => rfl⟩)

end Go.Proofs.Ytfgofmcpgfofaaa
