/- The law FnUnits, proved: a number of moderate size, divided by its size, has a size near 1, and multiplied by the size it is near the number.
   Conditions: none beyond the statement's own. -/
import Derived.Test.YtcodiiajmffdoaaUnit
import Derived.Test.YtcodiiajmffdoaaBeat
import Derived.Test.YtcodiiajmffdoaaRow
import Derived.Test.YtcodiiajmffdoaaRows
namespace Go.Proofs.Ytcodiiajmffdoaa
open Go Go.RowKit
theorem unitOf_ok (a b e f : Nat) (w : World) (h : Moderate a b) (hd : divD a b (szd a b) 0 = some (e, f)) :
    Calls Try.prog 21 #[.complex .f64 a b] w fun en w' => en = .returned (.tuple #[.complex .f64 e f, .bool true]) ∧ ∃ m, w' = w.drewN m := by
  obtain ⟨ax, bx, fa, fb, -⟩ := h
  have na := Nm_of_fin fa
  have nb := Nm_of_fin fb
  have hs : ∀ w, fres w .add .f64 (a % signBit) (b % signBit) = szd a b := fun w => by
    rw [labs_mod a ax na, labs_mod b bx nb]; unfold fres; rw [szd_eq a b ax bx na nb]
  have hl : szd a b < 2 ^ 64 := by have := floatBits_wf (szd_eq a b ax bx na nb); simpa [Lit.wf] using this
  have Hl := Lib.hid (And.intro hl hd)
  clear hl hd
  go_enter Try.func21, Try.ntmps21
  go_wp2_with fail
  refine (implSize_any a b _ ax bx).mono ?_
  rintro en w1 ⟨rfl, n1, rfl⟩
  rw [hs]
  go_wp2_with fail
  refine (implDiv_some a b _ _ e f _ ax bx Hl.out.1 (by decide) Hl.out.2).mono ?_
  rintro en w2 ⟨rfl, n2, rfl⟩
  go_wp2_with fail
  go_ret2
  exact ⟨rfl, _, rfl⟩
theorem scale_any (a b x p q : Nat) (w : World) (hp : floatBits .mul .f64 a x = some p) (hq : floatBits .mul .f64 b x = some q) :
    Calls Try.prog 25 #[.complex .f64 a b, .float .f64 x] w fun e w' => e = .returned (.complex .f64 p q) ∧ w = w' := by
  have r1 : ∀ w, fres w .mul .f64 a x = p := fun w => by unfold fres; rw [hp]
  have r2 : ∀ w, fres w .mul .f64 b x = q := fun w => by unfold fres; rw [hq]
  have q1 : fdr .mul .f64 a x = 0 := by unfold fdr; rw [hp]; rfl
  have q2 : fdr .mul .f64 b x = 0 := by unfold fdr; rw [hq]; rfl
  go_enter Try.func25, Try.ntmps25
  go_wp2
  all_goals (go_ret; exact ⟨rfl, rfl⟩)
end Go.Proofs.Ytcodiiajmffdoaa
namespace Go.Proofs.Ytcodiiajmffdoaa.fnUnits
open Go.ChangeShapes Go.WideShapes Go.ChangeAt Go.RowKit
open Go.ChangeMaps (open_string shut_string)
set_option linter.unusedVariables false

theorem walk (a0 : Option Addr) (len0 cap0 : Nat) (z0 : List Int) (w : World) (w0 : IsRow .u8 w a0 len0 cap0 z0) :
    Calls Try.prog 4 #[.slice a0 len0 cap0] w fun e w' => e = .returned (.bool true) ∧ Below w.heap.size w w' := by
  by_cases hl : len0 ≤ 1048576
  · have Hb := Lib.hid (bys_of_row w0 (by omega))
    clear w0
    go_enter Try.func4, Try.ntmps4
    go_wp2_with fail
    refine (makeModerate_any _ _ _ _ Hb.out).mono ?_
    rintro e w1 ⟨a, b, rfl, hab, bel1⟩
    have Hab := Lib.hid hab
    have Bel1 := Lib.hid bel1
    clear hab bel1
    obtain ⟨qe, qf, S, hdiv, -⟩ := unit_quo a b Hab.out
    have hlt := divD_lt hdiv
    obtain ⟨d1, d2, s1, s2, s3, s4, s5, s6, ne, nf⟩ := unit_size a b qe qf Hab.out hdiv hlt.1 hlt.2
    obtain ⟨p, q, g1, g2, gs, t1, t2, t3, t4, t5, t6, t7⟩ := unit_back a b qe qf Hab.out hdiv
    have p44 := power_bits 44 (by omega)
    rw [show (-((44 : Nat) : Int)) = -44 from rfl] at p44
    have P44 := Lib.hid p44
    have hk := powB_ok 44 (by omega)
    have hle : 300 * Flo.u ≤ Flo.W (powB 44) := by
      have e44 : Flo.W (powB 44) = 512 * Flo.u := by
        rw [hk.2, show (-((44 : Nat) : Int)) = 9 + -53 from rfl, Flo.pw_add, show Flo.pw 9 = 512 from Flo.pw_nat 9]; rfl
      have := Flo.u_pos
      grind
    have c1 : (FloatKind.f64.format.order d1 (powB 44) == some .lt || FloatKind.f64.format.order d1 (powB 44) == some .eq) = true := le_of_W s3 hk.1 (by grind)
    have c2 : (FloatKind.f64.format.order d2 (powB 44) == some .lt || FloatKind.f64.format.order d2 (powB 44) == some .eq) = true := le_of_W s4 hk.1 (by grind)
    have r1 : ∀ w, fres w .sub .f64 (szd qe qf) 4607182418800017408 = d1 := fun w => by unfold fres; rw [s1]
    have r2 : ∀ w, fres w .sub .f64 4607182418800017408 (szd qe qf) = d2 := fun w => by unfold fres; rw [s2]
    have q1 : fdr .sub .f64 (szd qe qf) 4607182418800017408 = 0 := by unfold fdr; rw [s1]; rfl
    have q2 : fdr .sub .f64 4607182418800017408 (szd qe qf) = 0 := by unfold fdr; rw [s2]; rfl
    have fin1 : ∀ w1 w2 w3 w4, _ := fun w1 w2 w3 w4 => small_of a b p q (powB 44) g1 g2 gs w1 w2 w3 w4 Hab.out t3 t4 t5 t6 t7 hk.1 hk.2
    have Fin := Lib.hid fin1
    have z1 : ∀ w, fres w .add .f64 (a % signBit) (b % signBit) = szd a b := fun w => by
      rw [labs_mod a Hab.out.1 (Nm_of_fin Hab.out.2.2.1), labs_mod b Hab.out.2.1 (Nm_of_fin Hab.out.2.2.2.1)]; unfold fres; rw [szd_eq a b Hab.out.1 Hab.out.2.1 (Nm_of_fin Hab.out.2.2.1) (Nm_of_fin Hab.out.2.2.2.1)]
    have z2 : ∀ w, fres w .add .f64 (qe % signBit) (qf % signBit) = szd qe qf := fun w => by
      rw [labs_mod qe hlt.1 ne, labs_mod qf hlt.2 nf]; unfold fres; rw [szd_eq qe qf hlt.1 hlt.2 ne nf]
    have Hx := Lib.hid (And.intro hdiv (And.intro hlt (And.intro t1 (And.intro t2 (And.intro z1 z2)))))
    clear hdiv hlt s1 s2 s3 s4 s5 s6 t1 t2 t3 t4 t5 t6 t7 hle hk fin1 p44 z1 z2 ne nf
    go_wp2_with fail
    refine (unitOf_ok a b qe qf _ Hab.out Hx.out.1).mono ?_
    rintro e w2 ⟨rfl, n2, rfl⟩
    go_wp2_with fail
    refine (implSize_any a b _ Hab.out.1 Hab.out.2.1).mono ?_
    rintro e w3 ⟨rfl, n3, rfl⟩
    rw [Hx.out.2.2.2.2.1]
    go_wp2_with fail
    refine (implSize_any qe qf _ Hx.out.2.1.1 Hx.out.2.1.2).mono ?_
    rintro e w4 ⟨rfl, n4, rfl⟩
    rw [Hx.out.2.2.2.2.2]
    go_wp2_with (first
      | (go_at_call 23; refine (P44.out _).mono ?_; rintro e w7 ⟨rfl, rfl⟩)
      | (go_at_call 25; refine (scale_any qe qf _ p q _ Hx.out.2.2.1 Hx.out.2.2.2.1).mono ?_; rintro e w8 ⟨rfl, rfl⟩)
      | (go_at_call 24; refine (small_any _ _ _ _ _ _).mono ?_; rintro e w9 ⟨v1, v2, v3, n9, rfl, rfl⟩; rw [Fin.out]))
    all_goals
      go_ret
      exact ⟨rfl, below_drewN (Bel1.out) _⟩
  · clear w0
    go_enter Try.func4, Try.ntmps4
    go_wp2
    go_ret
    exact ⟨rfl, Below.refl _ _⟩

/-! ### THE ROW's STEP: WRITTEN OUT: LEAVE IT -/
set_option maxRecDepth 100000 in
theorem lifted (os : Os) (started : os.Started) (H : Type) (enc : TypeId × Value → H) :
    ReturnsInHanded {} Try.checked os 4 .any (Rows.fnUnitsSpec.pre6 enc Try.prog Try.f4 Rows.fnUnitsRow.domain false) (Rows.fnUnitsSpec.post enc Try.prog Try.f4 false true false false) := by
  refine returnsInHanded_of_change (C := Try.checked) own started (by kernel_rfl) Try.func4
    (ChangeSpec.witness6 (enc := enc) (C := Try.checked) false ⟨#[], #[.slice none 0 0], []⟩ 8 (by kernel_rfl) (by kernel_rfl) (by kernel_rfl) (by kernel_rfl)) ?_
  intro W base args ds gs before hval0 hW hcnd _
  have hval : ∀ (j : Nat) t v, Try.f4.params[j]? = some t → args[j]? = some v → Value.okWide Try.prog W .any base t v := hval0
  have hW' := hW
  obtain ⟨p, q, hA0, hV, rfl, hfz, hnd⟩ := hW
  have hA : DataW.TrodAll enc Try.prog W 0 (fun _ => true) true Try.f4.params.toList args.toList ds p := hA0
  rw [Try.params4] at hA hval
  obtain ⟨v0, vs0, d0, ds0, p0, q0, hargs, rfl, rfl, h0, r0⟩ := trodAll_cons hA
  obtain ⟨rfl, rfl, rfl⟩ := trodAll_nil r0
  obtain rfl : args = #[v0] := by cases args; simp_all
  obtain ⟨rfl, rfl⟩ := trodVars_none hV
  obtain ⟨a0, len0, cap0, rfl⟩ := okWide_slice Try.underlying22 (hval 0 22 v0 rfl rfl)
  have k0 := h0
  have lt0 : ∀ x ∈ p0, x.block < W.heap.size := by obtain ⟨m, hm⟩ := k0; exact DataW.trod_lt m _ _ _ hm
  obtain ⟨z0, w0⟩ : ∃ zs, IsRow .u8 W a0 len0 cap0 zs := by
    obtain ⟨fuel, hf⟩ := h0
    rcases open_ints Try.underlying22 Try.underlying5 (by kernel_rfl) hf with ⟨hcs, _⟩ | ⟨x, l, c, zs, hcs, _, hl, hm, hz, _, hcell, hwz⟩
    · simp [Value.cells] at hcs
      obtain ⟨rfl, rfl, rfl⟩ := hcs
      exact ⟨[], .inl ⟨rfl, rfl, rfl, rfl⟩⟩
    · simp [Value.cells] at hcs
      obtain ⟨rfl, rfl, rfl⟩ := hcs
      exact ⟨zs, .inr ⟨_, rfl, hl, hm, by simpa using hz, hcell, hwz⟩⟩
  clear hA0 hval0
  refine (walk a0 len0 cap0 z0 W w0).mono fun e W' ⟨he, bel⟩ => ?_
  subst he
  exact ⟨_, rfl, _, _, _, [], _, [], hW', trodAll_mk1 (shut_bool Try.underlying4 _), (trodAll_cons_mk (Below.trod laidOut (by kernel_rfl) (of_decide_eq_true (by kernel_rfl)) k0 bel lt0) trodAll_mk0), rfl, bel.frame _, fun h => by cases h⟩

theorem over : Rows.fnUnitsRow.holds Try.pinned (OpenSpec.ofChange Rows.fnUnitsSpec) :=
  OpenClaim.holds_of_wide 4 Try.f4 rfl rfl rfl rfl rfl rfl rfl ⟨rfl, rfl, rfl, rfl, rfl⟩ rfl rfl rfl rfl rfl (by kernel_rfl) Try.func4 (by kernel_rfl)
    (of_decide_eq_true (by kernel_rfl)) (by unfold Func.isWrapper; first | (rw [if_pos (by decide +kernel)]; kernel_rfl) | (rw [if_neg (by decide +kernel)]; exact ⟨rfl, rfl⟩))
    (fun os started H enc _ => lifted os started H enc)

/-- ████ THE STATEMENT ████ -/
theorem proved : Rows.FnUnitsSaid := over
#print axioms proved
end Go.Proofs.Ytcodiiajmffdoaa.fnUnits

