/- The law FnExactLimitNext, proved: for all arguments LimitNext answers as its model does.
   Conditions: none beyond the statement's own. -/
import Derived.Test.YtcodiiajmffdoaaLimN
import Derived.Test.YtcodiiajmffdoaaFls
import Derived.Test.YtcodiiajmffdoaaRows
namespace Go.Proofs.Ytcodiiajmffdoaa
open Go Go.RowKit
theorem sameF_f32 {s r : Nat} (h : fab .f32 s = fab .f32 r) (w1 w2 : World) : sameF (fcv w1 .f32 s .f64) (fcv w2 .f32 r .f64) = true := by
  refine sameF_fab ?_
  rw [fab_wide, fab_wide]
  unfold wA
  cases ha : nan32 s
  · cases hb : nan32 r
    · rw [fab_some ha, fab_some hb] at h; cases h; rfl
    · rw [fab_some ha, fab_none hb] at h; cases h
  · cases hb : nan32 r
    · rw [fab_none ha, fab_some hb] at h; cases h
    · rfl
end Go.Proofs.Ytcodiiajmffdoaa
namespace Go.Proofs.Ytcodiiajmffdoaa.fnExactLimitNext
open Go.ChangeShapes Go.WideShapes Go.ChangeAt Go.RowKit
open Go.ChangeMaps (open_string shut_string)
set_option linter.unusedVariables false
theorem nw_below {w w' : World} (hb : Nw w w') : Below w.heap.size w w' := ⟨hb.os, hb.tape, hb.output, hb.size, fun k hk => hb.block k hk (by simp)⟩

theorem walk (e x c r : Nat) (w : World) (we : e < 2 ^ 32) (h32 : x < 2 ^ 32) (wc : c < 2 ^ 32) (wr : r < 2 ^ 32) :
    Calls Try.prog 11 #[.float .f32 e, .float .f32 x, .float .f32 c, .float .f32 r] w fun en w' => en = .returned (.bool true) ∧ Below w.heap.size w w' := by
  go_enter Try.func11, Try.ntmps11
  go_wp2_with fail
  refine (specLimit_ok e x c r h32 _).mono ?_
  rintro en w1 ⟨y1, d1, rfl, hy1, hd1, -, -, n1⟩
  go_wp2_with fail
  refine (implLimit_ok e x c r h32 _).mono ?_
  rintro en w2 ⟨y2, d2, rfl, hy2, hd2, -, -, n2⟩
  have s1 := sameF_f32 (hy2.trans hy1.symm)
  have s2 := sameF_f32 (hd2.trans hd1.symm)
  have N2 := Lib.hid (n1.trans n2)
  clear n1 n2 hy1 hy2 hd1 hd2
  go_wp2_with (first | (go_at_call 38; refine (sameFloat_any _ _ _).mono ?_; rintro en w3 ⟨rfl, rfl⟩; first | rw [s1] | rw [s2]))
  all_goals
    go_ret
    exact ⟨rfl, nw_below (N2.out.trans ⟨rfl, rfl, rfl, Nat.le_refl _, fun _ _ _ => rfl⟩)⟩

/-! ### THE ROW's STEP: WRITTEN OUT: LEAVE IT -/
set_option maxRecDepth 100000 in
theorem lifted (os : Os) (started : os.Started) (H : Type) (enc : TypeId × Value → H) :
    ReturnsInHanded {} Try.checked os 11 .any (Rows.fnExactLimitNextSpec.pre6 enc Try.prog Try.f11 Rows.fnExactLimitNextRow.domain false) (Rows.fnExactLimitNextSpec.post enc Try.prog Try.f11 false true false false) := by
  refine returnsInHanded_of_change (C := Try.checked) own started (by kernel_rfl) Try.func11
    (ChangeSpec.witness6 (enc := enc) (C := Try.checked) false ⟨#[], #[.float .f32 0, .float .f32 0, .float .f32 0, .float .f32 0], []⟩ 8 (by kernel_rfl) (by kernel_rfl) (by kernel_rfl) (by kernel_rfl)) ?_
  intro W base args ds gs before hval0 hW hcnd _
  have hval : ∀ (j : Nat) t v, Try.f11.params[j]? = some t → args[j]? = some v → Value.okWide Try.prog W .any base t v := hval0
  have hW' := hW
  obtain ⟨p, q, hA0, hV, rfl, hfz, hnd⟩ := hW
  have hA : DataW.TrodAll enc Try.prog W 0 (fun _ => true) true Try.f11.params.toList args.toList ds p := hA0
  rw [Try.params11] at hA hval
  obtain ⟨v0, vs0, d0, ds0, p0, q0, hargs, rfl, rfl, h0, r0⟩ := trodAll_cons hA
  obtain ⟨v1, vs1, d1, ds1, p1, q1, hargs1, rfl, rfl, h1, r1⟩ := trodAll_cons r0
  obtain ⟨v2, vs2, d2, ds2, p2, q2, hargs2, rfl, rfl, h2, r2⟩ := trodAll_cons r1
  obtain ⟨v3, vs3, d3, ds3, p3, q3, hargs3, rfl, rfl, h3, r3⟩ := trodAll_cons r2
  obtain ⟨rfl, rfl, rfl⟩ := trodAll_nil r3
  subst hargs3; subst hargs2; subst hargs1
  obtain rfl : args = #[v0, v1, v2, v3] := by cases args; simp_all
  obtain ⟨rfl, rfl⟩ := trodVars_none hV
  obtain ⟨a0, rfl, rfl, rfl, w0⟩ := open_float Try.underlying25 (hval 0 25 v0 rfl rfl) h0
  obtain ⟨a1, rfl, rfl, rfl, w1⟩ := open_float Try.underlying25 (hval 1 25 v1 rfl rfl) h1
  obtain ⟨a2, rfl, rfl, rfl, w2⟩ := open_float Try.underlying25 (hval 2 25 v2 rfl rfl) h2
  obtain ⟨a3, rfl, rfl, rfl, w3⟩ := open_float Try.underlying25 (hval 3 25 v3 rfl rfl) h3
  clear hA0 hval0
  refine (walk a0 a1 a2 a3 W (by simpa [Lit.wf] using w0) (by simpa [Lit.wf] using w1) (by simpa [Lit.wf] using w2) (by simpa [Lit.wf] using w3)).mono fun e W' ⟨he, bel⟩ => ?_
  subst he
  exact ⟨_, rfl, _, _, _, [], _, [], hW', trodAll_mk1 (shut_bool Try.underlying4 _), (trodAll_cons_mk (shut_float Try.underlying25 w0) (trodAll_cons_mk (shut_float Try.underlying25 w1) (trodAll_cons_mk (shut_float Try.underlying25 w2) (trodAll_cons_mk (shut_float Try.underlying25 w3) trodAll_mk0)))), rfl, bel.frame _, fun h => by cases h⟩

theorem over : Rows.fnExactLimitNextRow.holds Try.pinned (OpenSpec.ofChange Rows.fnExactLimitNextSpec) :=
  OpenClaim.holds_of_wide 11 Try.f11 rfl rfl rfl rfl rfl rfl rfl ⟨rfl, rfl, rfl, rfl, rfl⟩ rfl rfl rfl rfl rfl (by kernel_rfl) Try.func11 (by kernel_rfl)
    (of_decide_eq_true (by kernel_rfl)) (by unfold Func.isWrapper; first | (rw [if_pos (by decide +kernel)]; kernel_rfl) | (rw [if_neg (by decide +kernel)]; exact ⟨rfl, rfl⟩))
    (fun os started H enc _ => lifted os started H enc)

/-- ████ THE STATEMENT ████ -/
theorem proved : Rows.FnExactLimitNextSaid := over
#print axioms proved
end Go.Proofs.Ytcodiiajmffdoaa.fnExactLimitNext
