/- The law FnExactMixTracks, proved: for all arguments MixTracks answers as its model does, leaves its arguments as they were, and its answer owns its memory.
   Conditions: none beyond the statement's own. -/
import Derived.Test.YtcodiiajmffdoaaMixO
import Derived.Test.YtcodiiajmffdoaaRows
namespace Go.Proofs.Ytcodiiajmffdoaa.fnExactMixTracks
open Go.ChangeShapes Go.WideShapes Go.ChangeAt Go.RowKit
open Go.ChangeMaps (open_string shut_string)
set_option linter.unusedVariables false
theorem nw_below {w w' : World} (hb : Nw w w') : Below w.heap.size w w' := ⟨hb.os, hb.tape, hb.output, hb.size, fun k hk => hb.block k hk (by simp)⟩

/-- a row of earlier memory lasts while a later one is marked -/
theorem own_past {W : World} {w w' : World} {b1 b2 n1 n2 : Nat} {v u : Value} {xs ys : List Nat} (h0 : W.ownsRow b1 25 1 v n1 (cellsS xs)) (hb : W.heap.size ≤ b2)
    (h : w.ownsRow b1 25 1 v n1 (cellsS xs)) (h2 : w.ownsRow b2 25 1 u n2 (cellsS ys)) (hg : w.grownBy w' u.ownBlock) : w'.ownsRow b1 25 1 v n1 (cellsS xs) := by
  refine h.kept hg ?_
  cases hv : v.ownBlock with
  | none => exact .inl rfl
  | some q =>
    right
    intro e
    have a1 := (h0.lt q hv).2
    have a2 := own_ge h2 q e.symm
    omega
/-- a row of later memory lasts while an earlier one is marked -/
theorem own_later {W : World} {w w' : World} {b1 b2 n1 n2 : Nat} {v u : Value} {xs ys : List Nat} (h0 : W.ownsRow b2 25 1 u n2 (cellsS ys)) (hb : W.heap.size ≤ b1)
    (h : w.ownsRow b1 25 1 v n1 (cellsS xs)) (hg : w.grownBy w' u.ownBlock) : w'.ownsRow b1 25 1 v n1 (cellsS xs) := by
  refine h.kept hg ?_
  cases hv : v.ownBlock with
  | none => exact .inl rfl
  | some q =>
    right
    intro e
    have a1 := (h0.lt q e.symm).2
    have a2 := own_ge h q hv
    omega

set_option maxRecDepth 100000 in
theorem walk (a0 : Option Addr) (len0 cap0 : Nat) (c r : Nat) (w : World) (w0 : ∃ ps rows, Flss w.heap.size a0 len0 ps rows w) (hc : c < 2 ^ 32) (hr : r < 2 ^ 32) :
    Calls Try.prog 13 #[.slice a0 len0 cap0, .float .f32 c, .float .f32 r] w fun e w' => e = .returned (.bool true) ∧ Below w.heap.size w w' := by
  obtain ⟨ps, rows, hf⟩ := w0
  have Hf := Lib.hid hf
  clear hf
  go_enter Try.func13, Try.ntmps13
  go_wp2_with fail
  refine (szFloat32SS_ok _ a0 len0 cap0 ps rows _ Hf.out).mono ?_
  rintro e wz ⟨q, rfl, hq, rfl⟩
  rcases hq with rfl | ⟨q0, q1, hl, hps⟩
  · go_wp2_with fail
    go_ret
    exact ⟨rfl, Below.refl _ _⟩
  · have Hps := Lib.hid hps
    have R20 := Lib.hid (SRows.rl Hf.out hps)
    clear hps
    go_wp2_with fail
    refine (toFloat32SS_ok _ a0 len0 cap0 ps rows hl Hps.out _ (Nat.le_refl _) Hf.out).mono ?_
    rintro e w1 ⟨g1, gs1, rfl, own1, n1⟩
    go_wp2_with fail
    refine (specMix_ok rows len0 _ g1 c r gs1 hl R20.out hr _ own1).mono ?_
    rintro e w2 ⟨v0, ys0, b0, rfl, own2, hG0, n2⟩
    obtain ⟨m, hm⟩ : ∃ m, m = ys0.length := ⟨_, rfl⟩
    have hmb : m ≤ 1048576 := by rw [hm]; exact mixG_len hG0 R20.out
    rw [← hm] at own2
    have Hm := Lib.hid hm.symm
    have G0 := Lib.hid hG0
    have V2 := Lib.hid own2
    have N2 := Lib.hid (n1.trans n2)
    clear own1 own2 n1 n2 hG0 hm
    go_wp2_with fail
    refine (toFloat32SS_ok _ a0 len0 cap0 ps rows hl Hps.out _ N2.out.size (Hf.out.nw (Nat.le_refl _) N2.out)).mono ?_
    rintro e w3 ⟨g3, gs3, rfl, own3, n3⟩
    have V3 := Lib.hid (own_nw V2.out n3)
    have L3 := Lib.hid own3.lt
    have E3 := Lib.hid own3.ne
    have X3 := Lib.hid own3
    have N3 := Lib.hid (N2.out.trans n3)
    have B23 := Lib.hid n3.size
    clear own3 n3
    go_wp2_with fail
    refine (implMix_ok rows len0 _ g3 c r gs3 hl R20.out hr _ X3.out).mono ?_
    rintro e w4 ⟨g0, ys1, b1, rfl, own4, hG1, n4⟩
    obtain ⟨hA, rfl⟩ := mixG_alike hG1 G0.out
    have hm1 : ys1.length = m := hA.1.trans Hm.out
    rw [hm1] at own4
    have HA := Lib.hid (And.intro hA hm1)
    have V4 := Lib.hid (own_nw V3.out n4)
    have X4 := Lib.hid (X3.out.nw n4)
    have G4 := Lib.hid own4
    have N4 := Lib.hid (N3.out.trans n4)
    clear own4 n4 hA hm1 hG1
    go_wp2_with fail
    refine (eqFloat32S_two ys1 ys0 m _ _ g0 v0 HA.out.1 HA.out.2 hmb _ G4.out V4.out).mono ?_
    rintro e w5 ⟨rfl, n5⟩
    have V5 := Lib.hid (own_nw V4.out n5)
    have X5 := Lib.hid (X4.out.nw n5)
    have G5 := Lib.hid (own_nw G4.out n5)
    have N5 := Lib.hid (N4.out.trans n5)
    clear n5
    go_wp2_with fail
    refine (toFloat32SS_ok _ a0 len0 cap0 ps rows hl Hps.out _ N5.out.size (Hf.out.nw (Nat.le_refl _) N5.out)).mono ?_
    rintro e w6 ⟨g6, gs6, rfl, own6, n6⟩
    have V6 := Lib.hid (own_nw V5.out n6)
    have X6 := Lib.hid (X5.out.nw n6)
    have G6 := Lib.hid (own_nw G5.out n6)
    have Y6 := Lib.hid own6
    have N6 := Lib.hid (N5.out.trans n6)
    clear n6 own6
    go_wp2_with fail
    refine (eqFloat32SS_ok rows len0 _ g3 _ g6 gs3 gs6 hl R20.out _ X6.out Y6.out).mono ?_
    rintro e w7 ⟨rfl, n7⟩
    have V7 := Lib.hid (own_nw V6.out n7)
    have X7 := Lib.hid (X6.out.nw n7)
    have G7 := Lib.hid (own_nw G6.out n7)
    have N7 := Lib.hid (N6.out.trans n7)
    clear n7
    go_wp2_with fail
    refine (markFloat32SS_ok rows len0 _ g3 gs3 hl R20.out E3.out _ X7.out).mono ?_
    rintro e w8 ⟨k8, rfl, hk8, el8⟩
    have V8 := Lib.hid (el8.1 _ _ _ _ _ _ V7.out (fun x hx e => by have a1 := (V2.out.lt x e).2; have a2 := (L3.out x hx).1; omega))
    have G8 := Lib.hid (el8.1 _ _ _ _ _ _ G7.out (fun x hx e => by have a1 := (G4.out.lt x e).1; have a2 := (L3.out x hx).2; omega))
    have N8 := Lib.hid (el8.2 _ N7.out (fun x hx => Nat.le_trans N2.out.size (L3.out x hx).1))
    clear el8
    go_wp2_with fail
    refine (eqFloat32S_two ys1 ys0 m _ _ g0 v0 HA.out.1 HA.out.2 hmb _ G8.out V8.out).mono ?_
    rintro e w9 ⟨rfl, n9⟩
    have V9 := Lib.hid (own_nw V8.out n9)
    have G9 := Lib.hid (own_nw G8.out n9)
    have N9 := Lib.hid (N8.out.trans n9)
    clear n9
    go_wp2_with fail
    refine (mark_ok ys1 m _ g0 HA.out.2 hmb _ G9.out).mono ?_
    rintro e w10 ⟨rfl, own10, gr10⟩
    have V10 := Lib.hid (own_past V2.out B23.out V9.out G9.out gr10)
    have G10 := Lib.hid own10
    have N10 := Lib.hid (N9.out.grown gr10 (fun q hq => Nat.le_trans N3.out.size (own_ge G9.out q hq)))
    clear own10 gr10
    go_wp2_with fail
    refine (held_ok ys1 m _ g0 HA.out.2 hmb _ G10.out).mono ?_
    rintro e w11 ⟨rfl, n11⟩
    have V11 := Lib.hid (own_nw V10.out n11)
    have G11 := Lib.hid (own_nw G10.out n11)
    have N11 := Lib.hid (N10.out.trans n11)
    clear n11
    go_wp2_with fail
    refine (toFloat32SS_ok _ a0 len0 cap0 ps rows hl Hps.out _ N11.out.size (Hf.out.nw (Nat.le_refl _) N11.out)).mono ?_
    rintro e w12 ⟨g12, gs12, rfl, own12, n12⟩
    have V12 := Lib.hid (own_nw V11.out n12)
    have G12 := Lib.hid (own_nw G11.out n12)
    have Z12 := Lib.hid own12
    have N12 := Lib.hid (N11.out.trans n12)
    clear own12 n12
    go_wp2_with fail
    refine (implMix_ok rows len0 _ g12 c r gs12 hl R20.out hr _ Z12.out).mono ?_
    rintro e w13 ⟨h0, ys2, b2, rfl, own13, hG2, n13⟩
    obtain ⟨hA2, rfl⟩ := mixG_alike hG2 G0.out
    have hm2 : ys2.length = m := hA2.1.trans Hm.out
    rw [hm2] at own13
    have HA2 := Lib.hid (And.intro hA2 hm2)
    have V13 := Lib.hid (own_nw V12.out n13)
    have G13 := Lib.hid (own_nw G12.out n13)
    have H13 := Lib.hid own13
    have N13 := Lib.hid (N12.out.trans n13)
    clear own13 n13 hA2 hm2 hG2
    go_wp2_with fail
    refine (eqFloat32S_two ys2 ys0 m _ _ h0 v0 HA2.out.1 HA2.out.2 hmb _ H13.out V13.out).mono ?_
    rintro e w14 ⟨rfl, n14⟩
    have G14 := Lib.hid (own_nw G13.out n14)
    have N14 := Lib.hid (N13.out.trans n14)
    clear n14
    go_wp2_with fail
    refine (held_ok ys1 m _ g0 HA.out.2 hmb _ G14.out).mono ?_
    rintro e w15 ⟨rfl, n15⟩
    have N15 := Lib.hid (N14.out.trans n15)
    clear n15
    go_wp2_with fail
    go_ret
    exact ⟨rfl, nw_below N15.out⟩

/-! ### THE ROW's STEP: WRITTEN OUT: LEAVE IT -/
set_option maxRecDepth 100000 in
theorem lifted (os : Os) (started : os.Started) (H : Type) (enc : TypeId × Value → H) :
    ReturnsInHanded {} Try.checked os 13 .any (Rows.fnExactMixTracksSpec.pre6 enc Try.prog Try.f13 Rows.fnExactMixTracksRow.domain false) (Rows.fnExactMixTracksSpec.post enc Try.prog Try.f13 false true false false) := by
  refine returnsInHanded_of_change (C := Try.checked) own started (by kernel_rfl) Try.func13
    (ChangeSpec.witness6 (enc := enc) (C := Try.checked) false ⟨#[], #[.slice none 0 0, .float .f32 0, .float .f32 0], []⟩ 8 (by kernel_rfl) (by kernel_rfl) (by kernel_rfl) (by kernel_rfl)) ?_
  intro W base args ds gs before hval0 hW hcnd _
  have hval : ∀ (j : Nat) t v, Try.f13.params[j]? = some t → args[j]? = some v → Value.okWide Try.prog W .any base t v := hval0
  have hW' := hW
  obtain ⟨p, q, hA0, hV, rfl, hfz, hnd⟩ := hW
  have hA : DataW.TrodAll enc Try.prog W 0 (fun _ => true) true Try.f13.params.toList args.toList ds p := hA0
  rw [Try.params13] at hA hval
  obtain ⟨v0, vs0, d0, ds0, p0, q0, hargs, rfl, rfl, h0, r0⟩ := trodAll_cons hA
  obtain ⟨v1, vs1, d1, ds1, p1, q1, hargs1, rfl, rfl, h1, r1⟩ := trodAll_cons r0
  obtain ⟨v2, vs2, d2, ds2, p2, q2, hargs2, rfl, rfl, h2, r2⟩ := trodAll_cons r1
  obtain ⟨rfl, rfl, rfl⟩ := trodAll_nil r2
  subst hargs2; subst hargs1
  obtain rfl : args = #[v0, v1, v2] := by cases args; simp_all
  obtain ⟨rfl, rfl⟩ := trodVars_none hV
  obtain ⟨a0, len0, cap0, rfl⟩ := okWide_slice Try.underlying68 (hval 0 68 v0 rfl rfl)
  have k0 := h0
  have lt0 : ∀ x ∈ p0, x.block < W.heap.size := by obtain ⟨m, hm⟩ := k0; exact DataW.trod_lt m _ _ _ hm
  have w0 : ∃ ps rows, Flss W.heap.size a0 len0 ps rows W := by
    obtain ⟨fuel, hf⟩ := h0
    exact open_rows Try.underlying68 Try.underlying23 Try.underlying25 (by kernel_rfl) (by kernel_rfl) (by simpa [Value.cells] using hf)
  obtain ⟨a1, rfl, rfl, rfl, w1⟩ := open_float Try.underlying25 (hval 1 25 v1 rfl rfl) h1
  obtain ⟨a2, rfl, rfl, rfl, w2⟩ := open_float Try.underlying25 (hval 2 25 v2 rfl rfl) h2
  clear hA0 hval0
  refine (walk a0 len0 cap0 a1 a2 W w0 (by simpa [Lit.wf] using w1) (by simpa [Lit.wf] using w2)).mono fun e W' ⟨he, bel⟩ => ?_
  subst he
  exact ⟨_, rfl, _, _, _, [], _, [], hW', trodAll_mk1 (shut_bool Try.underlying4 _), (trodAll_cons_mk (Below.trod laidOut (by kernel_rfl) (of_decide_eq_true (by kernel_rfl)) k0 bel lt0) (trodAll_cons_mk (shut_float Try.underlying25 w1) (trodAll_cons_mk (shut_float Try.underlying25 w2) trodAll_mk0))), rfl, bel.frame _, fun h => by cases h⟩

theorem over : Rows.fnExactMixTracksRow.holds Try.pinned (OpenSpec.ofChange Rows.fnExactMixTracksSpec) :=
  OpenClaim.holds_of_wide 13 Try.f13 rfl rfl rfl rfl rfl rfl rfl ⟨rfl, rfl, rfl, rfl, rfl⟩ rfl rfl rfl rfl rfl (by kernel_rfl) Try.func13 (by kernel_rfl)
    (of_decide_eq_true (by kernel_rfl)) (by unfold Func.isWrapper; first | (rw [if_pos (by decide +kernel)]; kernel_rfl) | (rw [if_neg (by decide +kernel)]; exact ⟨rfl, rfl⟩))
    (fun os started H enc _ => lifted os started H enc)

/-- ████ THE STATEMENT ████ -/
theorem proved : Rows.FnExactMixTracksSaid := over
#print axioms proved
end Go.Proofs.Ytcodiiajmffdoaa.fnExactMixTracks
