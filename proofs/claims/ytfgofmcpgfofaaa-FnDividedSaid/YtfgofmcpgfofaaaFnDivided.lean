/- The law FnDivided, proved: the quotient of any two numbers of moderate size that the law makes exists, and multiplied by the divisor it differs from the dividend by at most the told bound; and any quotient is refused exactly where the document says so.
   Conditions: none beyond the statement's own. -/
import Derived.Test.YtfgofmcpgfofaaaQuo
import Derived.Test.YtfgofmcpgfofaaaRow
import Derived.Test.YtfgofmcpgfofaaaRows
namespace Go.Proofs.Ytfgofmcpgfofaaa.fnDivided
open Go.ChangeShapes Go.WideShapes Go.ChangeAt Go.RowKit
open Go.ChangeMaps (open_string shut_string)
set_option linter.unusedVariables false

theorem bys_step {w w1 : World} {a : Option Addr} {len : Nat} (h : Bys w.heap.size a len w) (hb : Below w.heap.size w w1) : Bys w1.heap.size a len w1 := (h.below hb).mono hb.size

theorem divD_some {a b c d e f : Nat} (h : divD a b c d = some (e, f)) :
    (fin .f64 a && fin .f64 b) = true ∧ (fin .f64 c && fin .f64 d) = true ∧ ((FloatKind.f64.format.order c 0 == some .eq) && (FloatKind.f64.format.order d 0 == some .eq)) = false ∧ (fin .f64 e && fin .f64 f) = true := by
  unfold divD at h
  split at h
  · rename_i hc
    simp only [Bool.and_eq_true, Bool.not_eq_true'] at hc
    split at h
    · split at h
      · rename_i hf
        simp only [Option.some.injEq, Prod.mk.injEq] at h
        obtain ⟨rfl, rfl⟩ := h
        exact ⟨by simp [hc], by simp [hc], hc.2, hf⟩
      · cases h
    · cases h
  · cases h

theorem divD_zero (a b : Nat) : divD a b 0 0 = none := by
  have h : (FloatKind.f64.format.order 0 0 == some .eq) = true := by decide
  unfold divD; rw [h]; simp

theorem zero_eq : (FloatKind.f64.format.order 0 0 == some .eq) = true := by decide

theorem walk (a0 : Option Addr) (len0 cap0 : Nat) (z0 : List Int) (w : World) (w0 : IsRow .u8 w a0 len0 cap0 z0) :
    Calls Try.prog 3 #[.slice a0 len0 cap0] w fun e w' => e = .returned (.bool true) ∧ Below w.heap.size w w' := by
  by_cases hl : len0 ≤ 1048576
  · have Hb := Lib.hid (bys_of_row w0 (by omega))
    clear w0
    go_enter Try.func3, Try.ntmps3
    go_wp2_with fail
    refine (makeModerate_any _ _ _ _ Hb.out).mono ?_
    rintro e w1 ⟨a, b, rfl, hab, bel1⟩
    have Hab := Lib.hid hab
    have Bel1 := Lib.hid bel1
    have Hb1 := Lib.hid ((Hb.out.below bel1).mono bel1.size)
    clear hab bel1
    go_wp2_with fail
    refine (fresh_any _ _ _ _ (by omega) (by omega) _ Hb1.out).mono ?_
    rintro e w2 ⟨g2, l2, c2, rfl, -, -, hf2, bel2⟩
    have Hf2 := Lib.hid hf2
    have Bel2 := Lib.hid (Bel1.out.trans (bel2.mono Bel1.out.size))
    clear hf2 bel2
    go_wp2_with fail
    refine (makeModerate_any _ _ _ _ Hf2.out).mono ?_
    rintro e w3 ⟨c, d, rfl, hcd, bel3⟩
    have Hcd := Lib.hid hcd
    have Bel3 := Lib.hid (Bel2.out.trans (bel3.mono Bel2.out.size))
    clear hcd bel3
    obtain ⟨qe, qf, hdiv, -⟩ := quo_moderate a b c d Hab.out Hcd.out
    have Hdiv := Lib.hid hdiv
    have p44 := power_neg 44 (by omega)
    rw [show (-((44 : Nat) : Int)) = -44 from rfl] at p44
    have P44 := Lib.hid p44
    clear hdiv p44
    go_wp2_with fail
    refine (implDiv_any _ _ _ _ _ Hab.out.1 Hab.out.2.1 Hcd.out.1 Hcd.out.2.1).mono ?_
    rintro e w4 ⟨rfl, n4, rfl⟩
    rw [Hdiv.out]
    simp only [divV]
    go_wp2_with fail
    refine (implMul_any _ _ _ _ _).mono ?_
    rintro e w5 ⟨p, q, n5, rfl, rfl, hp, hq, hp64, hq64⟩
    have Hp := Lib.hid hp
    have Hq := Lib.hid hq
    clear hp hq
    go_wp2_with fail
    refine (sizeDouble_fin _ _ _ Hab.out.1 Hab.out.2.1 (Nm_of_fin Hab.out.2.2.1) (Nm_of_fin Hab.out.2.2.2.1)).mono ?_
    rintro e w6 ⟨rfl, n6, rfl⟩
    go_wp2_with fail
    refine (P44.out _).mono ?_
    rintro e w7 ⟨k, rfl, rfl, hk, hk44⟩
    have Hk := Lib.hid hk
    have Hk44 := Lib.hid hk44
    clear hk hk44
    go_wp2_with fail
    refine (small_any _ _ _ _ _ _).mono ?_
    rintro e w8 ⟨v1, v2, v3, n8, rfl, rfl⟩
    rw [small_ok _ _ _ _ _ _ _ _ _ _ _ _ _ Hab.out Hcd.out Hdiv.out Hp.out Hq.out hp64 hq64 Hk.out Hk44.out]
    go_wp2_with fail
    refine (fresh_any _ _ _ _ (by omega) (by omega) _ (bys_step Hb.out (below_drewN Bel3.out _))).mono ?_
    rintro e w9 ⟨g9, l9, c9, rfl, -, -, hf9, bel9⟩
    have Hf9 := Lib.hid hf9
    have Bel9 := Lib.hid ((below_drewN Bel3.out _).trans (bel9.mono (below_drewN Bel3.out _).size))
    clear hf9 bel9
    go_wp2_with fail
    refine (makeDouble_any _ _ _ _ Hf9.out).mono ?_
    rintro e w10 ⟨x1, x2, rfl, hx1, hx2, bel10⟩
    have Bel10 := Lib.hid (Bel9.out.trans (bel10.mono Bel9.out.size))
    clear bel10
    go_wp2_with fail
    refine (fresh_any _ _ _ _ (by omega) (by omega) _ (bys_step Hb.out Bel10.out)).mono ?_
    rintro e w11 ⟨g11, l11, c11, rfl, -, -, hf11, bel11⟩
    have Hf11 := Lib.hid hf11
    have Bel11 := Lib.hid (Bel10.out.trans (bel11.mono Bel10.out.size))
    clear hf11 bel11
    go_wp2_with fail
    refine (makeDouble_any _ _ _ _ Hf11.out).mono ?_
    rintro e w12 ⟨y1, y2, rfl, hy1, hy2, bel12⟩
    have Bel12 := Lib.hid (Bel11.out.trans (bel12.mono Bel11.out.size))
    clear bel12
    go_wp2_with fail
    refine (implDiv_any _ _ _ _ _ hx1 hx2 hy1 hy2).mono ?_
    rintro e w13 ⟨rfl, n13, rfl⟩
    have z64 : (0 : Nat) < 2 ^ 64 := by decide
    have Hz := Lib.hid zero_eq
    cases hq2 : divD x1 x2 y1 y2 with
    | none =>
      simp only [divV]
      clear hq2
      go_wp2_with fail
      refine (implDiv_any _ _ _ _ _ hx1 hx2 z64 z64).mono ?_
      rintro e w14 ⟨rfl, n14, rfl⟩
      rw [divD_zero]
      simp only [divV]
      go_wp2
      go_ret
      exact ⟨by simp [zero_eq], below_drewN Bel12.out _⟩
    | some ef =>
      obtain ⟨e2, f2⟩ := ef
      simp only [divV]
      obtain ⟨i1, i2, i3, i4⟩ := divD_some hq2
      clear hq2
      go_wp2_with (first
        | (go_at_call 23; refine (finiteDouble_any _ _ _).mono ?_; rintro e w15 ⟨rfl, n15, rfl⟩)
        | (go_at_call 24; refine (implEqual_any _ _ _ _ _).mono ?_; rintro e w15 ⟨rfl, rfl⟩)
        | (go_at_call 17; refine (implDiv_any _ _ _ _ _ hx1 hx2 z64 z64).mono ?_; rintro e w14 ⟨rfl, n14, rfl⟩; rw [divD_zero]; simp only [divV]))
      go_ret
      exact ⟨by simp, below_drewN Bel12.out _⟩
  · go_enter Try.func3, Try.ntmps3
    go_wp2
    go_ret
    exact ⟨rfl, Below.refl _ _⟩

/-! ### THE ROW's STEP: WRITTEN OUT: LEAVE IT -/
set_option maxRecDepth 100000 in
theorem lifted (os : Os) (started : os.Started) (H : Type) (enc : TypeId × Value → H) :
    ReturnsInHanded {} Try.checked os 3 .any (Rows.fnDividedSpec.pre6 enc Try.prog Try.f3 Rows.fnDividedRow.domain false) (Rows.fnDividedSpec.post enc Try.prog Try.f3 false true false false) := by
  refine returnsInHanded_of_change (C := Try.checked) own started (by kernel_rfl) Try.func3
    (ChangeSpec.witness6 (enc := enc) (C := Try.checked) false ⟨#[], #[.slice none 0 0], []⟩ 8 (by kernel_rfl) (by kernel_rfl) (by kernel_rfl) (by kernel_rfl)) ?_
  intro W base args ds gs before hval0 hW hcnd _
  have hval : ∀ (j : Nat) t v, Try.f3.params[j]? = some t → args[j]? = some v → Value.okWide Try.prog W .any base t v := hval0
  have hW' := hW
  obtain ⟨p, q, hA0, hV, rfl, hfz, hnd⟩ := hW
  have hA : DataW.TrodAll enc Try.prog W 0 (fun _ => true) true Try.f3.params.toList args.toList ds p := hA0
  rw [Try.params3] at hA hval
  obtain ⟨v0, vs0, d0, ds0, p0, q0, hargs, rfl, rfl, h0, r0⟩ := trodAll_cons hA
  obtain ⟨rfl, rfl, rfl⟩ := trodAll_nil r0
  obtain rfl : args = #[v0] := by cases args; simp_all
  obtain ⟨rfl, rfl⟩ := trodVars_none hV
  obtain ⟨a0, len0, cap0, rfl⟩ := okWide_slice Try.underlying22 (hval 0 22 v0 rfl rfl)
  have k0 := h0
  have lt0 : ∀ x ∈ p0, x.block < W.heap.size := by obtain ⟨m, hm⟩ := k0; exact DataW.trod_lt m _ _ _ hm
  obtain ⟨z0, w0⟩ : ∃ zs, IsRow .u8 W a0 len0 cap0 zs := by
    obtain ⟨fuel, hf⟩ := h0
    rcases open_ints Try.underlying22 Try.underlying5 (by kernel_rfl) hf with ⟨hcs, _⟩ | ⟨x, l, c, zs, hcs, _, hl, hm, hz, _, hcell, hwz⟩
    · simp [Value.cells] at hcs
      obtain ⟨rfl, rfl, rfl⟩ := hcs
      exact ⟨[], .inl ⟨rfl, rfl, rfl, rfl⟩⟩
    · simp [Value.cells] at hcs
      obtain ⟨rfl, rfl, rfl⟩ := hcs
      exact ⟨zs, .inr ⟨_, rfl, hl, hm, by simpa using hz, hcell, hwz⟩⟩
  clear hA0 hval0
  refine (walk a0 len0 cap0 z0 W w0).mono fun e W' ⟨he, bel⟩ => ?_
  subst he
  exact ⟨_, rfl, _, _, _, [], _, [], hW', trodAll_mk1 (shut_bool Try.underlying4 _), (trodAll_cons_mk (Below.trod laidOut (by kernel_rfl) (of_decide_eq_true (by kernel_rfl)) k0 bel lt0) trodAll_mk0), rfl, bel.frame _, fun h => by cases h⟩

theorem over : Rows.fnDividedRow.holds Try.pinned (OpenSpec.ofChange Rows.fnDividedSpec) :=
  OpenClaim.holds_of_wide 3 Try.f3 rfl rfl rfl rfl rfl rfl rfl ⟨rfl, rfl, rfl, rfl, rfl⟩ rfl rfl rfl rfl rfl (by kernel_rfl) Try.func3 (by kernel_rfl)
    (of_decide_eq_true (by kernel_rfl)) (by unfold Func.isWrapper; first | (rw [if_pos (by decide +kernel)]; kernel_rfl) | (rw [if_neg (by decide +kernel)]; exact ⟨rfl, rfl⟩))
    (fun os started H enc _ => lifted os started H enc)

/-- ████ THE STATEMENT ████ -/
theorem proved : Rows.FnDividedSaid := over
#print axioms proved
end Go.Proofs.Ytfgofmcpgfofaaa.fnDivided
