/- The law FnExactEnergyOf, proved: for every slice of samples EnergyOf answers as its model does, and leaves it as it was.
   Conditions: none beyond the statement's own. -/
import Derived.Test.YtfgofmcpgfofaaaEn
import Derived.Test.YtfgofmcpgfofaaaRows
namespace Go.Proofs.Ytfgofmcpgfofaaa.fnExactEnergyOf
open Go.ChangeShapes Go.WideShapes Go.ChangeAt Go.RowKit
open Go.ChangeMaps (open_string shut_string)
set_option linter.unusedVariables false
theorem nw_below {w w' : World} (hb : Nw w w') : Below w.heap.size w w' := ⟨hb.os, hb.tape, hb.output, hb.size, fun k hk => hb.block k hk (by simp)⟩

theorem walk (a0 : Option Addr) (len0 cap0 : Nat) (w : World) (w0 : len0 ≤ 1048576 → ∃ zs, Fls w.heap.size a0 len0 zs w) :
    Calls Try.prog 13 #[.slice a0 len0 cap0] w fun e w' => e = .returned (.bool true) ∧ Below w.heap.size w w' := by
  by_cases hl : len0 ≤ 1048576
  · obtain ⟨zs, hf⟩ := w0 hl
    have Hf := Lib.hid hf
    have hlen := hf.1
    clear hf
    go_enter Try.func13, Try.ntmps13
    go_wp2_with fail
    refine (toFloat32S_ok _ a0 len0 cap0 zs hl _ (Nat.le_refl _) Hf.out).mono ?_
    rintro e w1 ⟨g1, rfl, own1, n1⟩
    go_wp2_with fail
    refine (specEnergy_ok zs len0 _ _ hlen hl _ own1).mono ?_
    rintro e w2 ⟨s, rfl, hs, n2⟩
    go_wp2_with fail
    refine (toFloat32S_ok _ a0 len0 cap0 zs hl _ (n1.trans n2).size (Hf.out.nw (Nat.le_refl _) (n1.trans n2))).mono ?_
    rintro e w3 ⟨g3, rfl, own3, n3⟩
    go_wp2_with fail
    refine (implEnergy_ok zs len0 _ _ hlen hl _ own3).mono ?_
    rintro e w4 ⟨t, rfl, ht, n4⟩
    go_wp2_with fail
    refine (sameFloat_any _ _ _).mono ?_
    rintro e w5 ⟨rfl, rfl⟩
    rw [sameF_fab (ht.trans hs.symm)]
    have N4 := Lib.hid (((n1.trans n2).trans n3).trans n4)
    have Own4 := Lib.hid (own_nw own3 n4)
    clear own1 own3 hs ht n1 n2 n3 n4
    go_wp2_with fail
    refine (toFloat32S_ok _ a0 len0 cap0 zs hl _ N4.out.size (Hf.out.nw (Nat.le_refl _) N4.out)).mono ?_
    rintro e w6 ⟨g6, rfl, own6, n6⟩
    have Own6 := Lib.hid own6
    have N6 := Lib.hid (N4.out.trans n6)
    have O6 := Lib.hid (own_nw Own4.out n6)
    clear own6 n6
    go_wp2_with fail
    refine (eqFloat32S_ok zs len0 _ _ _ _ hlen hl _ O6.out Own6.out).mono ?_
    rintro e w7 ⟨rfl, n7⟩
    have N7 := Lib.hid (N6.out.trans n7)
    clear n7
    go_wp2_with fail
    go_ret
    exact ⟨rfl, nw_below N7.out⟩
  · go_enter Try.func13, Try.ntmps13
    go_wp2
    go_ret
    exact ⟨rfl, Below.refl _ _⟩

/-! ### THE ROW's STEP: WRITTEN OUT: LEAVE IT -/
set_option maxRecDepth 100000 in
theorem lifted (os : Os) (started : os.Started) (H : Type) (enc : TypeId × Value → H) :
    ReturnsInHanded {} Try.checked os 13 .any (Rows.fnExactEnergyOfSpec.pre6 enc Try.prog Try.f13 Rows.fnExactEnergyOfRow.domain false) (Rows.fnExactEnergyOfSpec.post enc Try.prog Try.f13 false true false false) := by
  refine returnsInHanded_of_change (C := Try.checked) own started (by kernel_rfl) Try.func13
    (ChangeSpec.witness6 (enc := enc) (C := Try.checked) false ⟨#[], #[.slice none 0 0], []⟩ 8 (by kernel_rfl) (by kernel_rfl) (by kernel_rfl) (by kernel_rfl)) ?_
  intro W base args ds gs before hval0 hW hcnd _
  have hval : ∀ (j : Nat) t v, Try.f13.params[j]? = some t → args[j]? = some v → Value.okWide Try.prog W .any base t v := hval0
  have hW' := hW
  obtain ⟨p, q, hA0, hV, rfl, hfz, hnd⟩ := hW
  have hA : DataW.TrodAll enc Try.prog W 0 (fun _ => true) true Try.f13.params.toList args.toList ds p := hA0
  rw [Try.params13] at hA hval
  obtain ⟨v0, vs0, d0, ds0, p0, q0, hargs, rfl, rfl, h0, r0⟩ := trodAll_cons hA
  obtain ⟨rfl, rfl, rfl⟩ := trodAll_nil r0
  obtain rfl : args = #[v0] := by cases args; simp_all
  obtain ⟨rfl, rfl⟩ := trodVars_none hV
  obtain ⟨a0, len0, cap0, rfl⟩ := okWide_slice Try.underlying47 (hval 0 47 v0 rfl rfl)
  have k0 := h0
  have lt0 : ∀ x ∈ p0, x.block < W.heap.size := by obtain ⟨m, hm⟩ := k0; exact DataW.trod_lt m _ _ _ hm
  have w0 : len0 ≤ 1048576 → ∃ zs, Fls W.heap.size a0 len0 zs W := by
    intro _
    obtain ⟨fuel, hf⟩ := h0
    rcases open_floats Try.underlying47 Try.underlying49 (by kernel_rfl) hf with hcs | ⟨x, l, c, hcs, hl, hm, hcell⟩
    · simp [Value.cells] at hcs
      obtain ⟨rfl, rfl, rfl⟩ := hcs
      exact ⟨[], rfl, fun z hz => by simp at hz, .inl rfl⟩
    · simp [Value.cells] at hcs
      obtain ⟨rfl, rfl, rfl⟩ := hcs
      exact fls_of hcell
  clear hA0 hval0
  refine (walk a0 len0 cap0 W w0).mono fun e W' ⟨he, bel⟩ => ?_
  subst he
  exact ⟨_, rfl, _, _, _, [], _, [], hW', trodAll_mk1 (shut_bool Try.underlying4 _), (trodAll_cons_mk (Below.trod laidOut (by kernel_rfl) (of_decide_eq_true (by kernel_rfl)) k0 bel lt0) trodAll_mk0), rfl, bel.frame _, fun h => by cases h⟩

theorem over : Rows.fnExactEnergyOfRow.holds Try.pinned (OpenSpec.ofChange Rows.fnExactEnergyOfSpec) :=
  OpenClaim.holds_of_wide 13 Try.f13 rfl rfl rfl rfl rfl rfl rfl ⟨rfl, rfl, rfl, rfl, rfl⟩ rfl rfl rfl rfl rfl (by kernel_rfl) Try.func13 (by kernel_rfl)
    (of_decide_eq_true (by kernel_rfl)) (by unfold Func.isWrapper; first | (rw [if_pos (by decide +kernel)]; kernel_rfl) | (rw [if_neg (by decide +kernel)]; exact ⟨rfl, rfl⟩))
    (fun os started H enc _ => lifted os started H enc)

/-- ████ THE STATEMENT ████ -/
theorem proved : Rows.FnExactEnergyOfSaid := over
#print axioms proved
end Go.Proofs.Ytfgofmcpgfofaaa.fnExactEnergyOf
