/- The law FnExactBowForce, proved: for all arguments BowForce answers as its model does.
   Conditions: none beyond the statement's own. -/
import Derived.Test.YtfgofmcpgfofaaaPeak
import Derived.Test.YtfgofmcpgfofaaaBowI
import Derived.Laws.Cover2
namespace Go.Proofs.Ytfgofmcpgfofaaa
open Go Go.RowKit

theorem specBow2_ok (bow vel grip : Nat) (w : World) :
    Calls Try.prog 96 #[.float .f32 bow, .float .f32 vel, .float .f32 grip] w (BowP2 bow vel grip w) := by
  cases hs : floatBits .sub .f32 bow vel with
  | some d =>
    have hd : nan32 d = false := (floatBits_not_nan hs).1
    have r1 : ∀ w, fres w .sub .f32 bow vel = d := fun w => by unfold fres; rw [hs]
    have d1 : fdr .sub .f32 bow vel = 0 := by unfold fdr; rw [hs]; rfl
    have a1 := fcv_wide hd
    have a2 := fcd_wide hd
    cases hg : nan32 grip with
    | true =>
      have h1 : ∀ w b o, (FloatKind.f64.format.order b (fcv w .f32 grip .f64) == some o) = false := fun w b o => nan_right (k := .f64) (nan_wide hg w) b o
      have hst : stickB d grip = false := by unfold stickB; rw [hg]; rfl
      have Hh := Lib.hid (And.intro hs (And.intro hd hst))
      clear hs hd hst hg
      go_enter Try.func96, Try.ntmps96
      go_wp2_with (go_at_call 66; refine (l1Abs_any _ _).mono ?_; rintro e w' ⟨rfl, rfl⟩)
      all_goals
        go_ret2
        exact ⟨_, _, rfl, by unfold forceA; rw [Hh.out.1]; simp only [Hh.out.2.2, Bool.false_eq_true, if_false]; rw [fab_fres, fab_fres, fab_some Hh.out.2.1], ⟨rfl, rfl, rfl, Nat.le_refl _, fun _ _ _ => rfl⟩⟩
    | false =>
      have b1 := fcv_wide hg
      have b2 := fcd_wide hg
      cases hst : stickB d grip with
      | true =>
        have hst2 : (FloatKind.f64.format.order (labs (wid d)) (wid grip) == some .lt || FloatKind.f64.format.order (labs (wid d)) (wid grip) == some .eq) = true := by
          unfold stickB at hst; rw [hg] at hst; simpa using hst
        have Hh := Lib.hid (And.intro hs (And.intro hd hst))
        clear hs hd hst hg
        go_enter Try.func96, Try.ntmps96
        go_wp2_with (go_at_call 66; refine (l1Abs_any _ _).mono ?_; rintro e w' ⟨rfl, rfl⟩)
        all_goals
          go_ret2
          exact ⟨_, _, rfl, by unfold forceA; rw [Hh.out.1]; simp only [Hh.out.2.2, if_true]; exact fab_some Hh.out.2.1, Nw.refl _⟩
      | false =>
        have hst2 : (FloatKind.f64.format.order (labs (wid d)) (wid grip) == some .lt || FloatKind.f64.format.order (labs (wid d)) (wid grip) == some .eq) = false := by
          unfold stickB at hst; rw [hg] at hst; simpa using hst
        have Hh := Lib.hid (And.intro hs (And.intro hd hst))
        clear hs hd hst hg
        go_enter Try.func96, Try.ntmps96
        go_wp2_with (go_at_call 66; refine (l1Abs_any _ _).mono ?_; rintro e w' ⟨rfl, rfl⟩)
        all_goals
          go_ret2
          exact ⟨_, _, rfl, by unfold forceA; rw [Hh.out.1]; simp only [Hh.out.2.2, Bool.false_eq_true, if_false]; rw [fab_fres, fab_fres, fab_some Hh.out.2.1], ⟨rfl, rfl, rfl, Nat.le_refl _, fun _ _ _ => rfl⟩⟩
  | none =>
    have hn := sub_nan hs
    have h1 : ∀ w1 w2 b o, (FloatKind.f64.format.order (labs (fcv w1 .f32 (fres w2 .sub .f32 bow vel) .f64)) b == some o) = false := fun w1 w2 b o => by
      rw [nan_labs (nan_wide (hn w2) w1)]
      exact nan_left (k := .f64) (nan_wide (hn w2) w1) b o
    have Hs := Lib.hid hs
    have Hn := Lib.hid hn
    clear hs hn
    go_enter Try.func96, Try.ntmps96
    go_wp2_with (go_at_call 66; refine (l1Abs_any _ _).mono ?_; rintro e w' ⟨rfl, rfl⟩)
    all_goals
      go_ret2
      refine ⟨_, _, rfl, ?_, ⟨rfl, rfl, rfl, Nat.le_refl _, fun _ _ _ => rfl⟩⟩
      unfold forceA; rw [Hs.out]
      simp only
      rw [fab_fres, fab_none (Hn.out _), fA_none_right]

theorem specBow_ok (bow vel grip : Nat) (w : World) :
    Calls Try.prog 57 #[.float .f32 bow, .float .f32 vel, .float .f32 grip] w (BowP bow vel grip w) := by
  go_enter Try.func57, Try.ntmps57
  go_wp2_with fail
  refine (specBow2_ok bow vel grip _).mono ?_
  rintro e w1 ⟨r, b, rfl, hr, n1⟩
  have Hr := Lib.hid hr
  have N1 := Lib.hid n1
  clear hr n1
  go_wp2
  go_ret
  exact ⟨_, rfl, Hr.out, N1.out⟩

theorem wA_fab {a b : Nat} (h : fab .f32 a = fab .f32 b) : wA a = wA b := by
  unfold wA
  cases ha : nan32 a
  · cases hb : nan32 b
    · rw [fab_some ha, fab_some hb] at h; cases h; rfl
    · rw [fab_some ha, fab_none hb] at h; cases h
  · cases hb : nan32 b
    · rw [fab_none ha, fab_some hb] at h; cases h
    · rfl

end Go.Proofs.Ytfgofmcpgfofaaa
namespace Go.Proofs.Ytfgofmcpgfofaaa.fnExactBowForce
open Go.ChangeShapes Go.WideShapes Go.ChangeAt Go.RowKit
open Go.ChangeMaps (open_string shut_string)
set_option linter.unusedVariables false
theorem nw_below {w w' : World} (hb : Nw w w') : Below w.heap.size w w' := ⟨hb.os, hb.tape, hb.output, hb.size, fun k hk => hb.block k hk (by simp)⟩

theorem walk (a b c : Nat) (w : World) :
    Calls Try.prog 12 #[.float .f32 a, .float .f32 b, .float .f32 c] w fun e w' => e = .returned (.bool true) ∧ Below w.heap.size w w' := by
  go_enter Try.func12, Try.ntmps12
  go_wp2_with fail
  refine (specBow_ok a b c _).mono ?_
  rintro e w1 ⟨r, rfl, hr, n1⟩
  go_wp2_with fail
  refine (implBow_ok a b c _).mono ?_
  rintro e w2 ⟨s, rfl, hs, n2⟩
  have hsame : ∀ w1 w2, sameF (fcv w1 .f32 s .f64) (fcv w2 .f32 r .f64) = true := fun w1 w2 => sameF_fab (by rw [fab_wide, fab_wide]; exact wA_fab (hs.trans hr.symm))
  have N2 := Lib.hid (n1.trans n2)
  clear n1 n2 hr hs
  go_wp2_with fail
  refine (sameFloat_any _ _ _).mono ?_
  rintro e w3 ⟨rfl, rfl⟩
  rw [hsame]
  go_wp2_with fail
  go_ret
  exact ⟨rfl, nw_below (N2.out.trans ⟨rfl, rfl, rfl, Nat.le_refl _, fun _ _ _ => rfl⟩)⟩

/-! ### THE ROW's STEP: WRITTEN OUT: LEAVE IT -/
set_option maxRecDepth 100000 in
theorem lifted (os : Os) (started : os.Started) (H : Type) (enc : TypeId × Value → H) :
    ReturnsInHanded {} Try.checked os 12 .any (Rows.fnExactBowForceSpec.pre6 enc Try.prog Try.f12 Rows.fnExactBowForceRow.domain false) (Rows.fnExactBowForceSpec.post enc Try.prog Try.f12 false true false false) := by
  refine returnsInHanded_of_change (C := Try.checked) own started (by kernel_rfl) Try.func12
    (ChangeSpec.witness6 (enc := enc) (C := Try.checked) false ⟨#[], #[.float .f32 0, .float .f32 0, .float .f32 0], []⟩ 8 (by kernel_rfl) (by kernel_rfl) (by kernel_rfl) (by kernel_rfl)) ?_
  intro W base args ds gs before hval0 hW hcnd _
  have hval : ∀ (j : Nat) t v, Try.f12.params[j]? = some t → args[j]? = some v → Value.okWide Try.prog W .any base t v := hval0
  have hW' := hW
  obtain ⟨p, q, hA0, hV, rfl, hfz, hnd⟩ := hW
  have hA : DataW.TrodAll enc Try.prog W 0 (fun _ => true) true Try.f12.params.toList args.toList ds p := hA0
  rw [Try.params12] at hA hval
  obtain ⟨v0, vs0, d0, ds0, p0, q0, hargs, rfl, rfl, h0, r0⟩ := trodAll_cons hA
  obtain ⟨v1, vs1, d1, ds1, p1, q1, hargs1, rfl, rfl, h1, r1⟩ := trodAll_cons r0
  obtain ⟨v2, vs2, d2, ds2, p2, q2, hargs2, rfl, rfl, h2, r2⟩ := trodAll_cons r1
  obtain ⟨rfl, rfl, rfl⟩ := trodAll_nil r2
  subst hargs2; subst hargs1
  obtain rfl : args = #[v0, v1, v2] := by cases args; simp_all
  obtain ⟨rfl, rfl⟩ := trodVars_none hV
  obtain ⟨a, rfl, rfl, rfl, wa⟩ := open_float Try.underlying49 (hval 0 49 v0 rfl rfl) h0
  obtain ⟨b, rfl, rfl, rfl, wb⟩ := open_float Try.underlying49 (hval 1 49 v1 rfl rfl) h1
  obtain ⟨c, rfl, rfl, rfl, wc⟩ := open_float Try.underlying49 (hval 2 49 v2 rfl rfl) h2
  clear hA0 hval0
  refine (walk a b c W).mono fun e W' ⟨he, bel⟩ => ?_
  subst he
  exact ⟨_, rfl, _, _, _, [], _, [], hW', trodAll_mk1 (shut_bool Try.underlying4 _), (trodAll_cons_mk (shut_float Try.underlying49 wa) (trodAll_cons_mk (shut_float Try.underlying49 wb) (trodAll_cons_mk (shut_float Try.underlying49 wc) trodAll_mk0))), rfl, bel.frame _, fun h => by cases h⟩

theorem over : Rows.fnExactBowForceRow.holds Try.pinned (OpenSpec.ofChange Rows.fnExactBowForceSpec) :=
  OpenClaim.holds_of_wide 12 Try.f12 rfl rfl rfl rfl rfl rfl rfl ⟨rfl, rfl, rfl, rfl, rfl⟩ rfl rfl rfl rfl rfl (by kernel_rfl) Try.func12 (by kernel_rfl)
    (of_decide_eq_true (by kernel_rfl)) (by unfold Func.isWrapper; first | (rw [if_pos (by decide +kernel)]; kernel_rfl) | (rw [if_neg (by decide +kernel)]; exact ⟨rfl, rfl⟩))
    (fun os started H enc _ => lifted os started H enc)

/-- ████ THE STATEMENT ████ -/
theorem proved : Rows.FnExactBowForceSaid := over
#print axioms proved
end Go.Proofs.Ytfgofmcpgfofaaa.fnExactBowForce
