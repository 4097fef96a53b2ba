/- The law FnExactPitchOf, proved: for every slice of samples and every rate PitchOf answers as its model does, and leaves the samples as they were.
   Conditions: none beyond the statement's own. -/
import Derived.Test.YtcodiiajmffdoaaPitch
import Derived.Test.YtcodiiajmffdoaaRows
namespace Go.Proofs.Ytcodiiajmffdoaa.fnExactPitchOf
open Go.ChangeShapes Go.WideShapes Go.ChangeAt Go.RowKit
open Go.ChangeMaps (open_string shut_string)
set_option linter.unusedVariables false
theorem nw_below {w w' : World} (hb : Nw w w') : Below w.heap.size w w' := ⟨hb.os, hb.tape, hb.output, hb.size, fun k hk => hb.block k hk (by simp)⟩

theorem walk (a0 : Option Addr) (len0 cap0 : Nat) (r : Int) (w : World) (w0 : len0 ≤ 1048576 → ∃ zs, Fls w.heap.size a0 len0 zs w) :
    Calls Try.prog 9 #[.slice a0 len0 cap0, .int .i64 r] w fun e w' => e = .returned (.bool true) ∧ Below w.heap.size w w' := by
  by_cases hl : len0 ≤ 1048576
  · obtain ⟨zs, hf⟩ := w0 hl
    have Hf := Lib.hid hf
    have hlen := hf.1
    clear hf
    go_enter Try.func9, Try.ntmps9
    go_wp2_with fail
    refine (toFloat32S_ok _ a0 len0 cap0 zs hl _ (Nat.le_refl _) Hf.out).mono ?_
    rintro e w1 ⟨g1, rfl, own1, n1⟩
    go_wp2_with fail
    refine (specPitch_ok zs len0 _ _ r hlen hl _ own1).mono ?_
    rintro e w2 ⟨s, rfl, hs, n2⟩
    go_wp2_with fail
    refine (toFloat32S_ok _ a0 len0 cap0 zs hl _ (n1.trans n2).size (Hf.out.nw (Nat.le_refl _) (n1.trans n2))).mono ?_
    rintro e w3 ⟨g3, rfl, own3, n3⟩
    go_wp2_with fail
    refine (implPitch_ok zs len0 _ _ r hlen hl _ own3).mono ?_
    rintro e w4 ⟨t, rfl, ht, n4⟩
    have hsame := sameF_fab (ht.trans hs.symm)
    have N4 := Lib.hid (((n1.trans n2).trans n3).trans n4)
    have Own4 := Lib.hid (own_nw own3 n4)
    clear own1 own3 n1 n2 n3 n4 hs ht
    go_wp2_with fail
    refine (sameFloat_any _ _ _).mono ?_
    rintro e w5 ⟨rfl, rfl⟩
    rw [hsame]
    go_wp2_with fail
    refine (toFloat32S_ok _ a0 len0 cap0 zs hl _ N4.out.size (Hf.out.nw (Nat.le_refl _) N4.out)).mono ?_
    rintro e w6 ⟨g6, rfl, own6, n6⟩
    have Own6 := Lib.hid own6
    have N6 := Lib.hid (N4.out.trans n6)
    have O6 := Lib.hid (own_nw Own4.out n6)
    clear own6 n6
    go_wp2_with fail
    refine (eqFloat32S_ok zs len0 _ _ _ _ hlen hl _ O6.out Own6.out).mono ?_
    rintro e w7 ⟨rfl, n7⟩
    have N7 := Lib.hid (N6.out.trans n7)
    clear n7
    go_wp2_with fail
    go_ret
    exact ⟨rfl, nw_below N7.out⟩
  · go_enter Try.func9, Try.ntmps9
    go_wp2
    go_ret
    exact ⟨rfl, Below.refl _ _⟩

/-! ### THE ROW's STEP: WRITTEN OUT: LEAVE IT -/
set_option maxRecDepth 100000 in
theorem lifted (os : Os) (started : os.Started) (H : Type) (enc : TypeId × Value → H) :
    ReturnsInHanded {} Try.checked os 9 .any (Rows.fnExactPitchOfSpec.pre6 enc Try.prog Try.f9 Rows.fnExactPitchOfRow.domain false) (Rows.fnExactPitchOfSpec.post enc Try.prog Try.f9 false true false false) := by
  refine returnsInHanded_of_change (C := Try.checked) own started (by kernel_rfl) Try.func9
    (ChangeSpec.witness6 (enc := enc) (C := Try.checked) false ⟨#[], #[.slice none 0 0, .int .i64 0], []⟩ 8 (by kernel_rfl) (by kernel_rfl) (by kernel_rfl) (by kernel_rfl)) ?_
  intro W base args ds gs before hval0 hW hcnd _
  have hval : ∀ (j : Nat) t v, Try.f9.params[j]? = some t → args[j]? = some v → Value.okWide Try.prog W .any base t v := hval0
  have hW' := hW
  obtain ⟨p, q, hA0, hV, rfl, hfz, hnd⟩ := hW
  have hA : DataW.TrodAll enc Try.prog W 0 (fun _ => true) true Try.f9.params.toList args.toList ds p := hA0
  rw [Try.params9] at hA hval
  obtain ⟨v0, vs0, d0, ds0, p0, q0, hargs, rfl, rfl, h0, r0⟩ := trodAll_cons hA
  obtain ⟨v1, vs1, d1, ds1, p1, q1, hargs1, rfl, rfl, h1, r1⟩ := trodAll_cons r0
  obtain ⟨rfl, rfl, rfl⟩ := trodAll_nil r1
  subst hargs1
  obtain rfl : args = #[v0, v1] := by cases args; simp_all
  obtain ⟨rfl, rfl⟩ := trodVars_none hV
  obtain ⟨a0, len0, cap0, rfl⟩ := okWide_slice Try.underlying23 (hval 0 23 v0 rfl rfl)
  have k0 := h0
  have lt0 : ∀ x ∈ p0, x.block < W.heap.size := by obtain ⟨m, hm⟩ := k0; exact DataW.trod_lt m _ _ _ hm
  have w0 : len0 ≤ 1048576 → ∃ zs, Fls W.heap.size a0 len0 zs W := by
    intro _
    obtain ⟨fuel, hf⟩ := h0
    rcases open_floats Try.underlying23 Try.underlying25 (by kernel_rfl) hf with hcs | ⟨x, l, c, hcs, hl, hm, hcell⟩
    · simp [Value.cells] at hcs
      obtain ⟨rfl, rfl, rfl⟩ := hcs
      exact ⟨[], rfl, fun z hz => by simp at hz, .inl rfl⟩
    · simp [Value.cells] at hcs
      obtain ⟨rfl, rfl, rfl⟩ := hcs
      exact fls_of hcell
  obtain ⟨a1, rfl, rfl, rfl, w1⟩ := open_int Try.underlying3 (hval 1 3 v1 rfl rfl) h1
  clear hA0 hval0
  refine (walk a0 len0 cap0 a1 W w0).mono fun e W' ⟨he, bel⟩ => ?_
  subst he
  exact ⟨_, rfl, _, _, _, [], _, [], hW', trodAll_mk1 (shut_bool Try.underlying4 _), (trodAll_cons_mk (Below.trod laidOut (by kernel_rfl) (of_decide_eq_true (by kernel_rfl)) k0 bel lt0) (trodAll_cons_mk (shut_int Try.underlying3 w1) trodAll_mk0)), rfl, bel.frame _, fun h => by cases h⟩

theorem over : Rows.fnExactPitchOfRow.holds Try.pinned (OpenSpec.ofChange Rows.fnExactPitchOfSpec) :=
  OpenClaim.holds_of_wide 9 Try.f9 rfl rfl rfl rfl rfl rfl rfl ⟨rfl, rfl, rfl, rfl, rfl⟩ rfl rfl rfl rfl rfl (by kernel_rfl) Try.func9 (by kernel_rfl)
    (of_decide_eq_true (by kernel_rfl)) (by unfold Func.isWrapper; first | (rw [if_pos (by decide +kernel)]; kernel_rfl) | (rw [if_neg (by decide +kernel)]; exact ⟨rfl, rfl⟩))
    (fun os started H enc _ => lifted os started H enc)

/-- ████ THE STATEMENT ████ -/
theorem proved : Rows.FnExactPitchOfSaid := over
#print axioms proved
end Go.Proofs.Ytcodiiajmffdoaa.fnExactPitchOf
