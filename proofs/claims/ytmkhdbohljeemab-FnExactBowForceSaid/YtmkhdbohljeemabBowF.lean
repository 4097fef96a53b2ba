/- The law FnExactBowForce, proved: for all arguments BowForce answers as its model does.
   Conditions: none beyond the statement's own. -/
import Derived.Test.YtmkhdbohljeemabPeak
import Derived.Laws.Cover2
namespace Go.Proofs.Ytmkhdbohljeemab
open Go Go.RowKit

/-- does the bow stick? -/
def stickB (d g : Nat) : Bool := !nan32 g && (FloatKind.f64.format.order (labs (wid d)) (wid g) == some .lt || FloatKind.f64.format.order (labs (wid d)) (wid g) == some .eq)
/-- the force, but for the bits of NaN -/
def forceA (bow vel grip : Nat) : Option Nat :=
  match floatBits .sub .f32 bow vel with
  | some d => if stickB d grip then some d else fA .quo .f32 (fA .mul .f32 (fab .f32 grip) (fab .f32 grip)) (some d)
  | none => none
def BowP (bow vel grip : Nat) (w : World) (e : Ending) (w' : World) : Prop := ∃ r, e = .returned (.float .f32 r) ∧ fab .f32 r = forceA bow vel grip ∧ Nw w w'
def BowP2 (bow vel grip : Nat) (w : World) (e : Ending) (w' : World) : Prop := ∃ r b, e = .returned (.tuple #[.float .f32 r, .bool b]) ∧ fab .f32 r = forceA bow vel grip ∧ Nw w w'

theorem nan_right {k : FloatKind} {z : Nat} (h : (k.decode z).isNaN = true) (b : Nat) (o : Ordering) : (k.format.order b z == some o) = false := by
  unfold Ieee.Format.order
  unfold FloatKind.decode at h
  cases hd : k.format.read z <;> rw [hd] at h <;> simp [Ieee.Datum.isNaN] at h
  cases k.format.read b <;> simp [Ieee.Datum.order]
theorem nan_left {k : FloatKind} {z : Nat} (h : (k.decode z).isNaN = true) (b : Nat) (o : Ordering) : (k.format.order z b == some o) = false := by
  unfold Ieee.Format.order
  unfold FloatKind.decode at h
  cases hd : k.format.read z <;> rw [hd] at h <;> simp [Ieee.Datum.isNaN] at h
  simp [Ieee.Datum.order]

theorem sticks_wide (d g : Nat) (hd : nan32 d = false) (w : World) :
    Calls Try.prog 22 #[.float .f32 d, .float .f32 g] w fun e w' => e = .returned (.bool (stickB d g)) ∧ w = w' := by
  go_enter Try.func22, Try.ntmps22
  go_wp2_with fail
  refine (implAbs_wide d hd _).mono ?_
  rintro e w1 ⟨⟨q, rfl, hq⟩, rfl⟩
  have hr : (FloatKind.f32.format.order q g == some .lt || FloatKind.f32.format.order q g == some .eq) = stickB d g := by
    unfold stickB
    cases hg : nan32 g with
    | true => rw [nan_right (k := .f32) hg, nan_right (k := .f32) hg]; rfl
    | false => rw [show FloatKind.f64.format.order (labs (wid d)) (wid g) = FloatKind.f32.format.order q g from hq.order_wid hg]; rfl
  go_wp2
  go_ret
  exact ⟨by simp, rfl⟩
theorem sticks_nan (d g : Nat) (hd : nan32 d = true) (h32 : d < 2 ^ 32) (w : World) :
    Calls Try.prog 22 #[.float .f32 d, .float .f32 g] w fun e w' => e = .returned (.bool false) ∧ Nw w w' := by
  go_enter Try.func22, Try.ntmps22
  go_wp2_with fail
  refine (implAbs_nan d hd h32 _).mono ?_
  rintro e w1 ⟨⟨q, rfl, hq⟩, n1⟩
  have h1 := nan_left (k := .f32) hq g .lt
  have h2 := nan_left (k := .f32) hq g .eq
  have N1 := Lib.hid n1
  clear n1
  go_wp2
  go_ret
  exact ⟨by simp_all, N1.out⟩

theorem sub_nan {bow vel : Nat} (h : floatBits .sub .f32 bow vel = none) (w : World) : nan32 (fres w .sub .f32 bow vel) = true := by
  unfold fres; rw [h]; exact nan_cut _ _ _ _
theorem fA_none_right (op : BinOp) (k : FloatKind) (a : Option Nat) : fA op k a none = none := by cases a <;> rfl

theorem implBow_ok (bow vel grip : Nat) (w : World) :
    Calls Try.prog 13 #[.float .f32 bow, .float .f32 vel, .float .f32 grip] w (BowP bow vel grip w) := by
  cases hs : floatBits .sub .f32 bow vel with
  | some d =>
    have hd : nan32 d = false := (floatBits_not_nan hs).1
    have r1 : ∀ w, fres w .sub .f32 bow vel = d := fun w => by unfold fres; rw [hs]
    have d1 : fdr .sub .f32 bow vel = 0 := by unfold fdr; rw [hs]; rfl
    cases hst : stickB d grip with
    | true =>
      go_enter Try.func13, Try.ntmps13
      go_wp2_with fail
      refine (sticks_wide d grip hd _).mono ?_
      rintro e w1 ⟨rfl, rfl⟩
      rw [hst]
      go_wp2
      go_ret
      exact ⟨_, rfl, by unfold forceA; rw [hs]; simp only [hst, if_true]; exact fab_some hd, Nw.refl _⟩
    | false =>
      go_enter Try.func13, Try.ntmps13
      go_wp2_with fail
      refine (sticks_wide d grip hd _).mono ?_
      rintro e w1 ⟨rfl, rfl⟩
      rw [hst]
      go_wp2
      go_ret
      exact ⟨_, rfl, by unfold forceA; rw [hs]; simp only [hst, Bool.false_eq_true, if_false]; rw [fab_fres, fab_fres, fab_some hd], ⟨rfl, rfl, rfl, Nat.le_refl _, fun _ _ _ => rfl⟩⟩
  | none =>
    have hn := sub_nan hs
    have lt := fun w => fres_wf w .sub .f32 bow vel
    have Hs := Lib.hid hs
    clear hs
    go_enter Try.func13, Try.ntmps13
    go_wp2_with fail
    refine (sticks_nan _ grip (hn _) (lt _) _).mono ?_
    rintro e w1 ⟨rfl, n1⟩
    have N1 := Lib.hid n1
    clear n1
    go_wp2
    go_ret
    refine ⟨_, rfl, ?_, ?_⟩
    · unfold forceA; rw [Hs.out]
      simp only
      rw [fab_fres, fab_none (hn _), fA_none_right]
    · exact ((Nw.refl w).draw _).trans (N1.out.trans ⟨rfl, rfl, rfl, Nat.le_refl _, fun _ _ _ => rfl⟩)

theorem specBow2_ok (bow vel grip : Nat) (w : World) :
    Calls Try.prog 21 #[.float .f32 bow, .float .f32 vel, .float .f32 grip] w (BowP2 bow vel grip w) := by
  cases hs : floatBits .sub .f32 bow vel with
  | some d =>
    have hd : nan32 d = false := (floatBits_not_nan hs).1
    have r1 : ∀ w, fres w .sub .f32 bow vel = d := fun w => by unfold fres; rw [hs]
    have d1 : fdr .sub .f32 bow vel = 0 := by unfold fdr; rw [hs]; rfl
    have a1 := fcv_wide hd
    have a2 := fcd_wide hd
    cases hg : nan32 grip with
    | true =>
      have h1 : ∀ w b o, (FloatKind.f64.format.order b (fcv w .f32 grip .f64) == some o) = false := fun w b o => nan_right (k := .f64) (nan_wide hg w) b o
      have hst : stickB d grip = false := by unfold stickB; rw [hg]; rfl
      have Hh := Lib.hid (And.intro hs (And.intro hd hst))
      clear hs hd hst hg
      go_enter Try.func21, Try.ntmps21
      go_wp2_with (go_at_call 23; refine (l1Abs_any _ _).mono ?_; rintro e w' ⟨rfl, rfl⟩)
      all_goals
        go_ret2
        exact ⟨_, _, rfl, by unfold forceA; rw [Hh.out.1]; simp only [Hh.out.2.2, Bool.false_eq_true, if_false]; rw [fab_fres, fab_fres, fab_some Hh.out.2.1], ⟨rfl, rfl, rfl, Nat.le_refl _, fun _ _ _ => rfl⟩⟩
    | false =>
      have b1 := fcv_wide hg
      have b2 := fcd_wide hg
      cases hst : stickB d grip with
      | true =>
        have hst2 : (FloatKind.f64.format.order (labs (wid d)) (wid grip) == some .lt || FloatKind.f64.format.order (labs (wid d)) (wid grip) == some .eq) = true := by
          unfold stickB at hst; rw [hg] at hst; simpa using hst
        have Hh := Lib.hid (And.intro hs (And.intro hd hst))
        clear hs hd hst hg
        go_enter Try.func21, Try.ntmps21
        go_wp2_with (go_at_call 23; refine (l1Abs_any _ _).mono ?_; rintro e w' ⟨rfl, rfl⟩)
        all_goals
          go_ret2
          exact ⟨_, _, rfl, by unfold forceA; rw [Hh.out.1]; simp only [Hh.out.2.2, if_true]; exact fab_some Hh.out.2.1, Nw.refl _⟩
      | false =>
        have hst2 : (FloatKind.f64.format.order (labs (wid d)) (wid grip) == some .lt || FloatKind.f64.format.order (labs (wid d)) (wid grip) == some .eq) = false := by
          unfold stickB at hst; rw [hg] at hst; simpa using hst
        have Hh := Lib.hid (And.intro hs (And.intro hd hst))
        clear hs hd hst hg
        go_enter Try.func21, Try.ntmps21
        go_wp2_with (go_at_call 23; refine (l1Abs_any _ _).mono ?_; rintro e w' ⟨rfl, rfl⟩)
        all_goals
          go_ret2
          exact ⟨_, _, rfl, by unfold forceA; rw [Hh.out.1]; simp only [Hh.out.2.2, Bool.false_eq_true, if_false]; rw [fab_fres, fab_fres, fab_some Hh.out.2.1], ⟨rfl, rfl, rfl, Nat.le_refl _, fun _ _ _ => rfl⟩⟩
  | none =>
    have hn := sub_nan hs
    have h1 : ∀ w1 w2 b o, (FloatKind.f64.format.order (labs (fcv w1 .f32 (fres w2 .sub .f32 bow vel) .f64)) b == some o) = false := fun w1 w2 b o => by
      rw [nan_labs (nan_wide (hn w2) w1)]
      exact nan_left (k := .f64) (nan_wide (hn w2) w1) b o
    have Hs := Lib.hid hs
    have Hn := Lib.hid hn
    clear hs hn
    go_enter Try.func21, Try.ntmps21
    go_wp2_with (go_at_call 23; refine (l1Abs_any _ _).mono ?_; rintro e w' ⟨rfl, rfl⟩)
    all_goals
      go_ret2
      refine ⟨_, _, rfl, ?_, ⟨rfl, rfl, rfl, Nat.le_refl _, fun _ _ _ => rfl⟩⟩
      unfold forceA; rw [Hs.out]
      simp only
      rw [fab_fres, fab_none (Hn.out _), fA_none_right]

theorem specBow_ok (bow vel grip : Nat) (w : World) :
    Calls Try.prog 12 #[.float .f32 bow, .float .f32 vel, .float .f32 grip] w (BowP bow vel grip w) := by
  go_enter Try.func12, Try.ntmps12
  go_wp2_with fail
  refine (specBow2_ok bow vel grip _).mono ?_
  rintro e w1 ⟨r, b, rfl, hr, n1⟩
  have Hr := Lib.hid hr
  have N1 := Lib.hid n1
  clear hr n1
  go_wp2
  go_ret
  exact ⟨_, rfl, Hr.out, N1.out⟩

theorem wA_fab {a b : Nat} (h : fab .f32 a = fab .f32 b) : wA a = wA b := by
  unfold wA
  cases ha : nan32 a
  · cases hb : nan32 b
    · rw [fab_some ha, fab_some hb] at h; cases h; rfl
    · rw [fab_some ha, fab_none hb] at h; cases h
  · cases hb : nan32 b
    · rw [fab_none ha, fab_some hb] at h; cases h
    · rfl

end Go.Proofs.Ytmkhdbohljeemab
namespace Go.Proofs.Ytmkhdbohljeemab.fnExactBowForce
open Go.ChangeShapes Go.WideShapes Go.ChangeAt Go.RowKit
open Go.ChangeMaps (open_string shut_string)
set_option linter.unusedVariables false
theorem nw_below {w w' : World} (hb : Nw w w') : Below w.heap.size w w' := ⟨hb.os, hb.tape, hb.output, hb.size, fun k hk => hb.block k hk (by simp)⟩

theorem walk (a b c : Nat) (w : World) :
    Calls Try.prog 4 #[.float .f32 a, .float .f32 b, .float .f32 c] w fun e w' => e = .returned (.bool true) ∧ Below w.heap.size w w' := by
  go_enter Try.func4, Try.ntmps4
  go_wp2_with fail
  refine (specBow_ok a b c _).mono ?_
  rintro e w1 ⟨r, rfl, hr, n1⟩
  go_wp2_with fail
  refine (implBow_ok a b c _).mono ?_
  rintro e w2 ⟨s, rfl, hs, n2⟩
  have hsame : ∀ w1 w2, sameF (fcv w1 .f32 s .f64) (fcv w2 .f32 r .f64) = true := fun w1 w2 => sameF_fab (by rw [fab_wide, fab_wide]; exact wA_fab (hs.trans hr.symm))
  have N2 := Lib.hid (n1.trans n2)
  clear n1 n2 hr hs
  go_wp2_with fail
  refine (sameFloat_any _ _ _).mono ?_
  rintro e w3 ⟨rfl, rfl⟩
  rw [hsame]
  go_wp2_with fail
  go_ret
  exact ⟨rfl, nw_below (N2.out.trans ⟨rfl, rfl, rfl, Nat.le_refl _, fun _ _ _ => rfl⟩)⟩

/-! ### THE ROW's STEP: WRITTEN OUT: LEAVE IT -/
set_option maxRecDepth 100000 in
theorem lifted (os : Os) (started : os.Started) (H : Type) (enc : TypeId × Value → H) :
    ReturnsInHanded {} Try.checked os 4 .any (Rows.fnExactBowForceSpec.pre6 enc Try.prog Try.f4 Rows.fnExactBowForceRow.domain false) (Rows.fnExactBowForceSpec.post enc Try.prog Try.f4 false true false false) := by
  refine returnsInHanded_of_change (C := Try.checked) own started (by kernel_rfl) Try.func4
    (ChangeSpec.witness6 (enc := enc) (C := Try.checked) false ⟨#[], #[.float .f32 0, .float .f32 0, .float .f32 0], []⟩ 8 (by kernel_rfl) (by kernel_rfl) (by kernel_rfl) (by kernel_rfl)) ?_
  intro W base args ds gs before hval0 hW hcnd _
  have hval : ∀ (j : Nat) t v, Try.f4.params[j]? = some t → args[j]? = some v → Value.okWide Try.prog W .any base t v := hval0
  have hW' := hW
  obtain ⟨p, q, hA0, hV, rfl, hfz, hnd⟩ := hW
  have hA : DataW.TrodAll enc Try.prog W 0 (fun _ => true) true Try.f4.params.toList args.toList ds p := hA0
  rw [Try.params4] at hA hval
  obtain ⟨v0, vs0, d0, ds0, p0, q0, hargs, rfl, rfl, h0, r0⟩ := trodAll_cons hA
  obtain ⟨v1, vs1, d1, ds1, p1, q1, hargs1, rfl, rfl, h1, r1⟩ := trodAll_cons r0
  obtain ⟨v2, vs2, d2, ds2, p2, q2, hargs2, rfl, rfl, h2, r2⟩ := trodAll_cons r1
  obtain ⟨rfl, rfl, rfl⟩ := trodAll_nil r2
  subst hargs2; subst hargs1
  obtain rfl : args = #[v0, v1, v2] := by cases args; simp_all
  obtain ⟨rfl, rfl⟩ := trodVars_none hV
  obtain ⟨a, rfl, rfl, rfl, wa⟩ := open_float Try.underlying28 (hval 0 28 v0 rfl rfl) h0
  obtain ⟨b, rfl, rfl, rfl, wb⟩ := open_float Try.underlying28 (hval 1 28 v1 rfl rfl) h1
  obtain ⟨c, rfl, rfl, rfl, wc⟩ := open_float Try.underlying28 (hval 2 28 v2 rfl rfl) h2
  clear hA0 hval0
  refine (walk a b c W).mono fun e W' ⟨he, bel⟩ => ?_
  subst he
  exact ⟨_, rfl, _, _, _, [], _, [], hW', trodAll_mk1 (shut_bool Try.underlying4 _), (trodAll_cons_mk (shut_float Try.underlying28 wa) (trodAll_cons_mk (shut_float Try.underlying28 wb) (trodAll_cons_mk (shut_float Try.underlying28 wc) trodAll_mk0))), rfl, bel.frame _, fun h => by cases h⟩

theorem over : Rows.fnExactBowForceRow.holds Try.pinned (OpenSpec.ofChange Rows.fnExactBowForceSpec) :=
  OpenClaim.holds_of_wide 4 Try.f4 rfl rfl rfl rfl rfl rfl rfl ⟨rfl, rfl, rfl, rfl, rfl⟩ rfl rfl rfl rfl rfl (by kernel_rfl) Try.func4 (by kernel_rfl)
    (of_decide_eq_true (by kernel_rfl)) (by unfold Func.isWrapper; first | (rw [if_pos (by decide +kernel)]; kernel_rfl) | (rw [if_neg (by decide +kernel)]; exact ⟨rfl, rfl⟩))
    (fun os started H enc _ => lifted os started H enc)

/-- ████ THE STATEMENT ████ -/
theorem proved : Rows.FnExactBowForceSaid := over
#print axioms proved
end Go.Proofs.Ytmkhdbohljeemab.fnExactBowForce
