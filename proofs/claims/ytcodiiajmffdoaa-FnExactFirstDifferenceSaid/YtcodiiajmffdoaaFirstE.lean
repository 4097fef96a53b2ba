/- The law FnExactFirstDifference, proved: for all slices of samples FirstDifference answers as its model does, and leaves both as they were.
   Conditions: none beyond the statement's own. -/
import Derived.Test.YtcodiiajmffdoaaFirstI
import Derived.Test.YtcodiiajmffdoaaFirstS
import Derived.Test.YtcodiiajmffdoaaRows
namespace Go.Proofs.Ytcodiiajmffdoaa.fnExactFirstDifference
open Go.ChangeShapes Go.WideShapes Go.ChangeAt Go.RowKit
open Go.ChangeMaps (open_string shut_string)
set_option linter.unusedVariables false
theorem nw_below {w w' : World} (hb : Nw w w') : Below w.heap.size w w' := ⟨hb.os, hb.tape, hb.output, hb.size, fun k hk => hb.block k hk (by simp)⟩

theorem walk (a0 : Option Addr) (len0 cap0 : Nat) (a1 : Option Addr) (len1 cap1 : Nat) (w : World) (w0 : len0 ≤ 1048576 → ∃ zs, Fls w.heap.size a0 len0 zs w) (wq : len1 ≤ 1048576 → ∃ zs, Fls w.heap.size a1 len1 zs w) :
    Calls Try.prog 10 #[.slice a0 len0 cap0, .slice a1 len1 cap1] w fun e w' => e = .returned (.bool true) ∧ Below w.heap.size w w' := by
  by_cases hl : len0 ≤ 1048576
  · by_cases hm : len1 ≤ 1048576
    · obtain ⟨xs, hf⟩ := w0 hl
      obtain ⟨ys, hg⟩ := wq hm
      have Hf := Lib.hid hf
      have Hg := Lib.hid hg
      have hx := hf.1
      have hy := hg.1
      clear hf hg
      go_enter Try.func10, Try.ntmps10
      go_wp2_with fail
      refine (toFloat32S_ok _ a0 len0 cap0 xs hl _ (Nat.le_refl _) Hf.out).mono ?_
      rintro e w1 ⟨g1, rfl, own1, n1⟩
      have Own1 := Lib.hid own1
      have N1 := Lib.hid n1
      clear own1 n1
      go_wp2_with fail
      refine (toFloat32S_ok _ a1 len1 cap1 ys hm _ N1.out.size (Hg.out.nw (Nat.le_refl _) N1.out)).mono ?_
      rintro e w2 ⟨g2, rfl, own2, n2⟩
      have Own1 := Lib.hid (own_nw Own1.out n2)
      have Own2 := Lib.hid own2
      have N2 := Lib.hid (N1.out.trans n2)
      clear own2 n2
      go_wp2_with fail
      refine (specFirst_ok xs ys len0 len1 _ _ _ _ hx hy hl hm Hf.out.2.1 Hg.out.2.1 _ Own1.out Own2.out).mono ?_
      rintro e w3 ⟨rfl, n3⟩
      have N3 := Lib.hid (N2.out.trans n3)
      clear n3
      go_wp2_with fail
      refine (toFloat32S_ok _ a0 len0 cap0 xs hl _ N3.out.size (Hf.out.nw (Nat.le_refl _) N3.out)).mono ?_
      rintro e w4 ⟨g4, rfl, own4, n4⟩
      have Own4 := Lib.hid own4
      have N4 := Lib.hid (N3.out.trans n4)
      clear own4 n4
      go_wp2_with fail
      refine (toFloat32S_ok _ a1 len1 cap1 ys hm _ N4.out.size (Hg.out.nw (Nat.le_refl _) N4.out)).mono ?_
      rintro e w5 ⟨g5, rfl, own5, n5⟩
      have O4 := Lib.hid (own_nw Own4.out n5)
      have O5 := Lib.hid own5
      have N5 := Lib.hid (N4.out.trans n5)
      clear own5 n5
      go_wp2_with fail
      refine (implFirst_ok xs ys len0 len1 _ _ _ _ hx hy hl hm Hf.out.2.1 Hg.out.2.1 _ O4.out O5.out).mono ?_
      rintro e w6 ⟨rfl, n6⟩
      have P4 := Lib.hid (own_nw O4.out n6)
      have P5 := Lib.hid (own_nw O5.out n6)
      have N6 := Lib.hid (N5.out.trans n6)
      clear n6
      go_wp2_with fail
      refine (toFloat32S_ok _ a0 len0 cap0 xs hl _ N6.out.size (Hf.out.nw (Nat.le_refl _) N6.out)).mono ?_
      rintro e w7 ⟨g7, rfl, own7, n7⟩
      have Own7 := Lib.hid own7
      have Q4 := Lib.hid (own_nw P4.out n7)
      have Q5 := Lib.hid (own_nw P5.out n7)
      have N7 := Lib.hid (N6.out.trans n7)
      clear own7 n7
      go_wp2_with fail
      refine (eqFloat32S_ok xs len0 _ _ _ _ hx hl _ Q4.out Own7.out).mono ?_
      rintro e w8 ⟨rfl, n8⟩
      have R5 := Lib.hid (own_nw Q5.out n8)
      have N8 := Lib.hid (N7.out.trans n8)
      clear n8
      go_wp2_with fail
      refine (toFloat32S_ok _ a1 len1 cap1 ys hm _ N8.out.size (Hg.out.nw (Nat.le_refl _) N8.out)).mono ?_
      rintro e w9 ⟨g9, rfl, own9, n9⟩
      have Own9 := Lib.hid own9
      have S5 := Lib.hid (own_nw R5.out n9)
      have N9 := Lib.hid (N8.out.trans n9)
      clear own9 n9
      go_wp2_with fail
      refine (eqFloat32S_ok ys len1 _ _ _ _ hy hm _ S5.out Own9.out).mono ?_
      rintro e w10 ⟨rfl, n10⟩
      have N10 := Lib.hid (N9.out.trans n10)
      clear n10
      go_wp2_with fail
      go_ret
      exact ⟨rfl, nw_below N10.out⟩
    · go_enter Try.func10, Try.ntmps10
      go_wp2
      go_ret
      exact ⟨rfl, Below.refl _ _⟩
  · go_enter Try.func10, Try.ntmps10
    go_wp2
    go_ret
    exact ⟨rfl, Below.refl _ _⟩

/-! ### THE ROW's STEP: WRITTEN OUT: LEAVE IT -/
set_option maxRecDepth 100000 in
theorem lifted (os : Os) (started : os.Started) (H : Type) (enc : TypeId × Value → H) :
    ReturnsInHanded {} Try.checked os 10 .any (Rows.fnExactFirstDifferenceSpec.pre6 enc Try.prog Try.f10 Rows.fnExactFirstDifferenceRow.domain false) (Rows.fnExactFirstDifferenceSpec.post enc Try.prog Try.f10 false true false false) := by
  refine returnsInHanded_of_change (C := Try.checked) own started (by kernel_rfl) Try.func10
    (ChangeSpec.witness6 (enc := enc) (C := Try.checked) false ⟨#[], #[.slice none 0 0, .slice none 0 0], []⟩ 8 (by kernel_rfl) (by kernel_rfl) (by kernel_rfl) (by kernel_rfl)) ?_
  intro W base args ds gs before hval0 hW hcnd _
  have hval : ∀ (j : Nat) t v, Try.f10.params[j]? = some t → args[j]? = some v → Value.okWide Try.prog W .any base t v := hval0
  have hW' := hW
  obtain ⟨p, q, hA0, hV, rfl, hfz, hnd⟩ := hW
  have hA : DataW.TrodAll enc Try.prog W 0 (fun _ => true) true Try.f10.params.toList args.toList ds p := hA0
  rw [Try.params10] at hA hval
  obtain ⟨v0, vs0, d0, ds0, p0, q0, hargs, rfl, rfl, h0, r0⟩ := trodAll_cons hA
  obtain ⟨v1, vs1, d1, ds1, p1, q1, hargs1, rfl, rfl, h1, r1⟩ := trodAll_cons r0
  obtain ⟨rfl, rfl, rfl⟩ := trodAll_nil r1
  subst hargs1
  obtain rfl : args = #[v0, v1] := by cases args; simp_all
  obtain ⟨rfl, rfl⟩ := trodVars_none hV
  obtain ⟨a0, len0, cap0, rfl⟩ := okWide_slice Try.underlying23 (hval 0 23 v0 rfl rfl)
  have k0 := h0
  have lt0 : ∀ x ∈ p0, x.block < W.heap.size := by obtain ⟨m, hm⟩ := k0; exact DataW.trod_lt m _ _ _ hm
  have w0 : len0 ≤ 1048576 → ∃ zs, Fls W.heap.size a0 len0 zs W := by
    intro _
    obtain ⟨fuel, hf⟩ := h0
    rcases open_floats Try.underlying23 Try.underlying25 (by kernel_rfl) hf with hcs | ⟨x, l, c, hcs, hl, hm, hcell⟩
    · simp [Value.cells] at hcs
      obtain ⟨rfl, rfl, rfl⟩ := hcs
      exact ⟨[], rfl, fun z hz => by simp at hz, .inl rfl⟩
    · simp [Value.cells] at hcs
      obtain ⟨rfl, rfl, rfl⟩ := hcs
      exact fls_of hcell
  obtain ⟨a1, len1, cap1, rfl⟩ := okWide_slice Try.underlying23 (hval 1 23 v1 rfl rfl)
  have k1 := h1
  have lt1 : ∀ x ∈ p1, x.block < W.heap.size := by obtain ⟨m, hm⟩ := k1; exact DataW.trod_lt m _ _ _ hm
  have w1 : len1 ≤ 1048576 → ∃ zs, Fls W.heap.size a1 len1 zs W := by
    intro _
    obtain ⟨fuel, hf⟩ := h1
    rcases open_floats Try.underlying23 Try.underlying25 (by kernel_rfl) hf with hcs | ⟨x, l, c, hcs, hl, hm, hcell⟩
    · simp [Value.cells] at hcs
      obtain ⟨rfl, rfl, rfl⟩ := hcs
      exact ⟨[], rfl, fun z hz => by simp at hz, .inl rfl⟩
    · simp [Value.cells] at hcs
      obtain ⟨rfl, rfl, rfl⟩ := hcs
      exact fls_of hcell
  clear hA0 hval0
  refine (walk a0 len0 cap0 a1 len1 cap1 W w0 w1).mono fun e W' ⟨he, bel⟩ => ?_
  subst he
  exact ⟨_, rfl, _, _, _, [], _, [], hW', trodAll_mk1 (shut_bool Try.underlying4 _), (trodAll_cons_mk (Below.trod laidOut (by kernel_rfl) (of_decide_eq_true (by kernel_rfl)) k0 bel lt0) (trodAll_cons_mk (Below.trod laidOut (by kernel_rfl) (of_decide_eq_true (by kernel_rfl)) k1 bel lt1) trodAll_mk0)), rfl, bel.frame _, fun h => by cases h⟩

theorem over : Rows.fnExactFirstDifferenceRow.holds Try.pinned (OpenSpec.ofChange Rows.fnExactFirstDifferenceSpec) :=
  OpenClaim.holds_of_wide 10 Try.f10 rfl rfl rfl rfl rfl rfl rfl ⟨rfl, rfl, rfl, rfl, rfl⟩ rfl rfl rfl rfl rfl (by kernel_rfl) Try.func10 (by kernel_rfl)
    (of_decide_eq_true (by kernel_rfl)) (by unfold Func.isWrapper; first | (rw [if_pos (by decide +kernel)]; kernel_rfl) | (rw [if_neg (by decide +kernel)]; exact ⟨rfl, rfl⟩))
    (fun os started H enc _ => lifted os started H enc)

/-- ████ THE STATEMENT ████ -/
theorem proved : Rows.FnExactFirstDifferenceSaid := over
#print axioms proved
end Go.Proofs.Ytcodiiajmffdoaa.fnExactFirstDifference
