/- The law FnExactStrikeShape, proved: for all arguments StrikeShape answers as its model does, and its answer owns its memory.
   Conditions: none beyond the statement's own. -/
import Derived.Test.YtfgofmcpgfofaaaMarks
import Derived.Test.YtfgofmcpgfofaaaRow
import Derived.Test.YtfgofmcpgfofaaaRows
namespace Go.Proofs.Ytfgofmcpgfofaaa.fnExactStrikeShape
open Go.ChangeShapes Go.WideShapes Go.ChangeAt Go.RowKit
open Go.ChangeMaps (open_string shut_string)
set_option linter.unusedVariables false
theorem nw_below {w w' : World} (hb : Nw w w') : Below w.heap.size w w' := ⟨hb.os, hb.tape, hb.output, hb.size, fun k hk => hb.block k hk (by simp)⟩

/-- a row of earlier memory lasts while a later one is marked -/
theorem own_past {W : World} {w w' : World} {b1 b2 n1 n2 : Nat} {v u : Value} {xs ys : List Nat} (h0 : W.ownsRow b1 49 1 v n1 (cellsS xs)) (hb : W.heap.size ≤ b2)
    (h : w.ownsRow b1 49 1 v n1 (cellsS xs)) (h2 : w.ownsRow b2 49 1 u n2 (cellsS ys)) (hg : w.grownBy w' u.ownBlock) : w'.ownsRow b1 49 1 v n1 (cellsS xs) := by
  refine h.kept hg ?_
  cases hv : v.ownBlock with
  | none => exact .inl rfl
  | some q =>
    right
    intro e
    have a1 := (h0.lt q hv).2
    have a2 := own_ge h2 q e.symm
    omega

set_option maxRecDepth 100000 in
theorem walk (a b : Int) (w : World) :
    Calls Try.prog 11 #[.int .i64 a, .int .i64 b] w fun e w' => e = .returned (.bool true) ∧ Below w.heap.size w w' := by
  have c1 := Lib.hid (specStrike_any a b)
  have c2 := Lib.hid (implStrike_any a b)
  have hl := shapeZ_len a b
  generalize shapeZ a b = zs at c1 c2 hl
  generalize okZ a b = ok at c1 c2
  obtain ⟨n, hn⟩ : ∃ n, n = zs.length := ⟨_, rfl⟩
  unfold ShapeV at c1 c2
  rw [← hn] at c1 c2 hl
  have Hn := Lib.hid hn.symm
  clear hn
  go_enter Try.func11, Try.ntmps11
  go_wp2_with fail
  refine (c1.out _).mono ?_
  rintro e w1 ⟨v0, rfl, own0, n1⟩
  have O1 := Lib.hid own0
  have N1 := Lib.hid n1
  clear own0 n1
  go_wp2_with fail
  refine (c2.out _).mono ?_
  rintro e w2 ⟨g0, rfl, own1, n2⟩
  have O2 := Lib.hid (own_nw O1.out n2)
  have G2 := Lib.hid own1
  have N2 := Lib.hid (N1.out.trans n2)
  clear own1 n2
  go_wp2_with fail
  refine (eqFloat32S_ok zs n _ _ g0 v0 Hn.out (by omega) _ G2.out O2.out).mono ?_
  rintro e w3 ⟨rfl, n3⟩
  have O3 := Lib.hid (own_nw O2.out n3)
  have G3 := Lib.hid (own_nw G2.out n3)
  have N3 := Lib.hid (N2.out.trans n3)
  clear n3
  go_wp2_with fail
  refine (mark_ok zs n _ g0 Hn.out (by omega) _ G3.out).mono ?_
  rintro e w4 ⟨rfl, g4, gr4⟩
  have O4 := Lib.hid (own_past O1.out (Nat.le_refl _) O3.out G3.out gr4)
  have G4 := Lib.hid g4
  have N4 := Lib.hid (nw_grow2 N3.out gr4 (fun q hq => Nat.le_trans N1.out.size (own_ge G3.out q hq)))
  clear g4 gr4
  go_wp2_with fail
  refine (held_ok zs n _ g0 Hn.out (by omega) _ G4.out).mono ?_
  rintro e w5 ⟨rfl, n5⟩
  have O5 := Lib.hid (own_nw O4.out n5)
  have G5 := Lib.hid (own_nw G4.out n5)
  have N5 := Lib.hid (N4.out.trans n5)
  clear n5
  go_wp2_with fail
  refine (c2.out _).mono ?_
  rintro e w6 ⟨h0, rfl, own6, n6⟩
  have O6 := Lib.hid (own_nw O5.out n6)
  have G6 := Lib.hid (own_nw G5.out n6)
  have H6 := Lib.hid own6
  have N6 := Lib.hid (N5.out.trans n6)
  clear own6 n6
  go_wp2_with fail
  refine (eqFloat32S_ok zs n _ _ h0 v0 Hn.out (by omega) _ H6.out O6.out).mono ?_
  rintro e w7 ⟨rfl, n7⟩
  have G7 := Lib.hid (own_nw G6.out n7)
  have N7 := Lib.hid (N6.out.trans n7)
  clear n7
  go_wp2_with fail
  refine (held_ok zs n _ g0 Hn.out (by omega) _ G7.out).mono ?_
  rintro e w8 ⟨rfl, n8⟩
  have N8 := Lib.hid (N7.out.trans n8)
  clear n8
  go_wp2_with fail
  go_ret
  exact ⟨rfl, nw_below N8.out⟩

/-! ### THE ROW's STEP: WRITTEN OUT: LEAVE IT -/
set_option maxRecDepth 100000 in
theorem lifted (os : Os) (started : os.Started) (H : Type) (enc : TypeId × Value → H) :
    ReturnsInHanded {} Try.checked os 11 .any (Rows.fnExactStrikeShapeSpec.pre6 enc Try.prog Try.f11 Rows.fnExactStrikeShapeRow.domain false) (Rows.fnExactStrikeShapeSpec.post enc Try.prog Try.f11 false true false false) := by
  refine returnsInHanded_of_change (C := Try.checked) own started (by kernel_rfl) Try.func11
    (ChangeSpec.witness6 (enc := enc) (C := Try.checked) false ⟨#[], #[.int .i64 0, .int .i64 0], []⟩ 8 (by kernel_rfl) (by kernel_rfl) (by kernel_rfl) (by kernel_rfl)) ?_
  intro W base args ds gs before hval0 hW hcnd _
  have hval : ∀ (j : Nat) t v, Try.f11.params[j]? = some t → args[j]? = some v → Value.okWide Try.prog W .any base t v := hval0
  have hW' := hW
  obtain ⟨p, q, hA0, hV, rfl, hfz, hnd⟩ := hW
  have hA : DataW.TrodAll enc Try.prog W 0 (fun _ => true) true Try.f11.params.toList args.toList ds p := hA0
  rw [Try.params11] at hA hval
  obtain ⟨v0, vs0, d0, ds0, p0, q0, hargs, rfl, rfl, h0, r0⟩ := trodAll_cons hA
  obtain ⟨v1, vs1, d1, ds1, p1, q1, hargs1, rfl, rfl, h1, r1⟩ := trodAll_cons r0
  obtain ⟨rfl, rfl, rfl⟩ := trodAll_nil r1
  subst hargs1
  obtain rfl : args = #[v0, v1] := by cases args; simp_all
  obtain ⟨rfl, rfl⟩ := trodVars_none hV
  obtain ⟨a, rfl, rfl, rfl, wa⟩ := open_int Try.underlying3 (hval 0 3 v0 rfl rfl) h0
  obtain ⟨b, rfl, rfl, rfl, wb⟩ := open_int Try.underlying3 (hval 1 3 v1 rfl rfl) h1
  clear hA0 hval0
  refine (walk a b W).mono fun e W' ⟨he, bel⟩ => ?_
  subst he
  exact ⟨_, rfl, _, _, _, [], _, [], hW', trodAll_mk1 (shut_bool Try.underlying4 _), (trodAll_cons_mk (shut_int Try.underlying3 wa) (trodAll_cons_mk (shut_int Try.underlying3 wb) trodAll_mk0)), rfl, bel.frame _, fun h => by cases h⟩

theorem over : Rows.fnExactStrikeShapeRow.holds Try.pinned (OpenSpec.ofChange Rows.fnExactStrikeShapeSpec) :=
  OpenClaim.holds_of_wide 11 Try.f11 rfl rfl rfl rfl rfl rfl rfl ⟨rfl, rfl, rfl, rfl, rfl⟩ rfl rfl rfl rfl rfl (by kernel_rfl) Try.func11 (by kernel_rfl)
    (of_decide_eq_true (by kernel_rfl)) (by unfold Func.isWrapper; first | (rw [if_pos (by decide +kernel)]; kernel_rfl) | (rw [if_neg (by decide +kernel)]; exact ⟨rfl, rfl⟩))
    (fun os started H enc _ => lifted os started H enc)

/-- ████ THE STATEMENT ████ -/
theorem proved : Rows.FnExactStrikeShapeSaid := over
#print axioms proved
end Go.Proofs.Ytfgofmcpgfofaaa.fnExactStrikeShape
