/- The law FnBeats, proved: of any two modes that the law makes, with poles whose sizes are at least 2^-20, the beat multiplied by the second pole is within 2^-44 of the first one; and a mode beats with itself at once.
   Conditions: none beyond the statement's own. -/
import Derived.Test.YtfgofmcpgfofaaaBeat
import Derived.Test.YtfgofmcpgfofaaaRow
import Derived.Test.YtfgofmcpgfofaaaRows
namespace Go.Proofs.Ytfgofmcpgfofaaa.fnBeats
open Go.ChangeShapes Go.WideShapes Go.ChangeAt Go.RowKit
open Go.ChangeMaps (open_string shut_string)
set_option linter.unusedVariables false

theorem bys_step {w w1 : World} {a : Option Addr} {len : Nat} (h : Bys w.heap.size a len w) (hb : Nw w w1) : Bys w1.heap.size a len w1 :=
  (h.below ⟨hb.os, hb.tape, hb.output, hb.size, fun k hk => hb.block k hk (by simp)⟩).mono hb.size
theorem nw_of_below {w w1 : World} (h : Below w.heap.size w w1) : Nw w w1 := ⟨h.os, h.tape, h.output, h.size, fun k hk _ => h.block k hk⟩

theorem _root_.Go.Proofs.Ytfgofmcpgfofaaa.Nw.below {w w1 : World} (hb : Nw w w1) : Below w.heap.size w w1 := ⟨hb.os, hb.tape, hb.output, hb.size, fun k hk => hb.block k hk (by simp)⟩

/-- the law's test of the beat -/
theorem small_beat {pr pi gr gi c d e f p q k : Nat} {w1 w2 w3 : World} (hv : Valid pr pi gr gi) (h1 : Moderate (wid pr) (wid pi)) (h2 : Moderate c d) (hdiv : divD (wid pr) (wid pi) c d = some (e, f))
    (hp : fab .f64 p = mulRe (fab .f64 e) (fab .f64 f) (fab .f64 c) (fab .f64 d)) (hq : fab .f64 q = mulIm (fab .f64 e) (fab .f64 f) (fab .f64 c) (fab .f64 d)) (hp64 : p < 2 ^ 64) (hq64 : q < 2 ^ 64)
    (hk : Flo.Nm k) (hk44 : Flo.W k = Flo.pw (-((44 : Nat) : Int))) :
    (FloatKind.f64.format.order (fres w3 .add .f64 (labs (fres w1 .sub .f64 p (wid pr))) (labs (fres w2 .sub .f64 q (wid pi)))) k == some .lt ||
      FloatKind.f64.format.order (fres w3 .add .f64 (labs (fres w1 .sub .f64 p (wid pr))) (labs (fres w2 .sub .f64 q (wid pi)))) k == some .eq) = true := by
  obtain ⟨d1, d2, s, i1, j1, r1, r2, hh⟩ := diff_ok _ _ c d e f p q h1 h2 hdiv hp hq hp64 hq64
  have fr1 : fres w1 .sub .f64 p (wid pr) = d1 := by unfold fres; rw [i1]
  have fr2 : fres w2 .sub .f64 q (wid pi) = d2 := by unfold fres; rw [j1]
  have fr3 : fres w3 .add .f64 (labs d1) (labs d2) = s := by unfold fres; rw [r1]
  rw [fr1, fr2, fr3]
  refine (leB_iff r2 hk).2 ?_
  have e44 : Flo.W k = 512 * Flo.u := by
    rw [hk44, show (-((44 : Nat) : Int)) = 9 + -53 from rfl, Flo.pw_add, show Flo.pw 9 = 512 from Flo.pw_nat 9]; rfl
  have hs := hv.size
  have u0 := Flo.u_pos
  have := Rat.mul_le_mul_of_nonneg_left hs (Rat.le_of_lt u0)
  rw [e44]
  grind

theorem walk (a0 : Option Addr) (len0 cap0 : Nat) (z0 : List Int) (w : World) (w0 : IsRow .u8 w a0 len0 cap0 z0) :
    Calls Try.prog 4 #[.slice a0 len0 cap0] w fun e w' => e = .returned (.bool true) ∧ Below w.heap.size w w' := by
  by_cases hl : len0 ≤ 1048576
  · have Hb := Lib.hid (bys_of_row w0 (by omega))
    clear w0
    have p20 := power_neg 20 (by omega)
    rw [show (-((20 : Nat) : Int)) = -20 from rfl] at p20
    have P20 := Lib.hid p20
    have p44 := power_neg 44 (by omega)
    rw [show (-((44 : Nat) : Int)) = -44 from rfl] at p44
    have P44 := Lib.hid p44
    clear p20 p44
    go_enter Try.func4, Try.ntmps4
    go_wp2_with fail
    refine (makeMode_any _ _ _ _ Hb.out).mono ?_
    rintro e w1 ⟨pr, pi, gr, gi, rfl, hv1, n1⟩
    have N1 := Lib.hid (n1.alloc (.cells #[.complex .f32 pr pi, .complex .f32 gr gi] 38 (0, 0)))
    have A1 := Lib.hid (HasMode.new w1 38 pr pi gr gi)
    clear n1
    go_wp2_with fail
    refine (fresh_any _ _ _ _ (by omega) (by omega) _ (bys_step Hb.out N1.out)).mono ?_
    rintro e w2 ⟨g2, l2, c2, rfl, -, -, hf2, bel2⟩
    have N2 := Lib.hid (N1.out.trans (nw_of_below bel2))
    have A2 := Lib.hid (A1.out.nw (nw_of_below bel2))
    have Hf2 := Lib.hid hf2
    clear hf2 bel2
    go_wp2_with fail
    refine (makeMode_any _ _ _ _ Hf2.out).mono ?_
    rintro e w3 ⟨qr, qi, hr, hi, rfl, hv2, n3⟩
    have N3 := Lib.hid ((N2.out.trans n3).alloc (.cells #[.complex .f32 qr qi, .complex .f32 hr hi] 38 (0, 0)))
    have A3 := Lib.hid ((A2.out.nw n3).alloc (.cells #[.complex .f32 qr qi, .complex .f32 hr hi] 38 (0, 0)))
    have B3 := Lib.hid (HasMode.new w3 38 qr qi hr hi)
    clear n3
    obtain ⟨v1, v2, -, -, -, -, -⟩ := hv1.parts
    obtain ⟨v3, v4, -, -, -, -, -⟩ := hv2.parts
    have S1 := Sm_of v1
    have S2 := Sm_of v2
    have S3 := Sm_of v3
    have S4 := Sm_of v4
    clear v1 v2 v3 v4
    have a1 := fcv_up S1
    have a2 := fcv_up S2
    have a3 := fcv_up S3
    have a4 := fcv_up S4
    have b1 := fcd_up S1
    have b2 := fcd_up S2
    have b3 := fcd_up S3
    have b4 := fcd_up S4
    obtain ⟨-, k0, k1, -, -⟩ := A3.out
    obtain ⟨-, k2, k3, -, -⟩ := B3.out
    have n1 := Lib.hid (wid_num S1).1
    have n2 := Lib.hid (wid_num S2).1
    have n3 := Lib.hid (wid_num S3).1
    have n4 := Lib.hid (wid_num S4).1
    go_wp2_with fail
    refine (sizeDouble_fin _ _ _ (wid_lt _) (wid_lt _) n1.out n2.out).mono ?_
    rintro e w4 ⟨rfl, m4, rfl⟩
    go_wp2_with fail
    refine (P20.out _).mono ?_
    rintro e w5 ⟨k, rfl, rfl, hk, hk20⟩
    cases ht : (FloatKind.f64.format.order (szd (wid pr) (wid pi)) k == some .lt)
    · have M1 := Lib.hid (hv1.moderate hk hk20 ht)
      clear hk hk20
      go_wp2_with fail
      refine (sizeDouble_fin _ _ _ (wid_lt _) (wid_lt _) n3.out n4.out).mono ?_
      rintro e w6 ⟨rfl, m6, rfl⟩
      go_wp2_with fail
      refine (P20.out _).mono ?_
      rintro e w7 ⟨k', rfl, rfl, hk, hk20⟩
      cases ht2 : (FloatKind.f64.format.order (szd (wid qr) (wid qi)) k' == some .lt)
      · have M2 := Lib.hid (hv2.moderate hk hk20 ht2)
        clear hk hk20
        obtain ⟨ze, zf, hdiv, -⟩ := quo_moderate _ _ _ _ M1.out M2.out
        have Hdiv := Lib.hid hdiv
        clear hdiv
        go_wp2_with fail
        refine (beatOf_valid _ _ _ _ _ _ _ _ _ _ _ hv1 hv2 Hdiv.out).mono ?_
        rintro e w8 ⟨rfl, n8⟩
        have N8 := Lib.hid ((N3.out.draw _).trans n8)
        have A8 := Lib.hid ((A3.out.draw _).nw n8)
        clear n8 k0 k1 k2 k3
        obtain ⟨-, k0, k1, -, -⟩ := A8.out
        go_wp2_with fail
        refine (beatPeriod_self _ _ _ _ _ hv1 M1.out).mono ?_
        rintro e w9 ⟨rfl, n9⟩
        have N9 := Lib.hid (N8.out.trans n9)
        clear n9 k0 k1
        go_wp2_with fail
        refine (implMul_any _ _ _ _ _).mono ?_
        rintro e w10 ⟨p, q, m10, rfl, rfl, hp, hq, hp64, hq64⟩
        have Hp := Lib.hid hp
        have Hq := Lib.hid hq
        clear hp hq
        go_wp2_with fail
        refine (P44.out _).mono ?_
        rintro e w11 ⟨k4, rfl, rfl, hk4, hk44⟩
        have Hk4 := Lib.hid hk4
        have Hk44 := Lib.hid hk44
        clear hk4 hk44
        go_wp2_with fail
        refine (small_any _ _ _ _ _ _).mono ?_
        rintro e w12 ⟨v1, v2, v3, m12, rfl, rfl⟩
        rw [small_beat hv1 M1.out M2.out Hdiv.out Hp.out Hq.out hp64 hq64 Hk4.out Hk44.out]
        go_wp2
        go_ret
        exact ⟨rfl, (N9.out.draw _).below⟩
      · clear hk hk20
        go_wp2
        go_ret
        exact ⟨rfl, (N3.out.draw _).below⟩
    · clear hk hk20
      go_wp2
      go_ret
      exact ⟨rfl, (N3.out.draw _).below⟩
  · go_enter Try.func4, Try.ntmps4
    go_wp2
    go_ret
    exact ⟨rfl, Below.refl _ _⟩

/-! ### THE ROW's STEP: WRITTEN OUT: LEAVE IT -/
set_option maxRecDepth 100000 in
theorem lifted (os : Os) (started : os.Started) (H : Type) (enc : TypeId × Value → H) :
    ReturnsInHanded {} Try.checked os 4 .any (Rows.fnBeatsSpec.pre6 enc Try.prog Try.f4 Rows.fnBeatsRow.domain false) (Rows.fnBeatsSpec.post enc Try.prog Try.f4 false true false false) := by
  refine returnsInHanded_of_change (C := Try.checked) own started (by kernel_rfl) Try.func4
    (ChangeSpec.witness6 (enc := enc) (C := Try.checked) false ⟨#[], #[.slice none 0 0], []⟩ 8 (by kernel_rfl) (by kernel_rfl) (by kernel_rfl) (by kernel_rfl)) ?_
  intro W base args ds gs before hval0 hW hcnd _
  have hval : ∀ (j : Nat) t v, Try.f4.params[j]? = some t → args[j]? = some v → Value.okWide Try.prog W .any base t v := hval0
  have hW' := hW
  obtain ⟨p, q, hA0, hV, rfl, hfz, hnd⟩ := hW
  have hA : DataW.TrodAll enc Try.prog W 0 (fun _ => true) true Try.f4.params.toList args.toList ds p := hA0
  rw [Try.params4] at hA hval
  obtain ⟨v0, vs0, d0, ds0, p0, q0, hargs, rfl, rfl, h0, r0⟩ := trodAll_cons hA
  obtain ⟨rfl, rfl, rfl⟩ := trodAll_nil r0
  obtain rfl : args = #[v0] := by cases args; simp_all
  obtain ⟨rfl, rfl⟩ := trodVars_none hV
  obtain ⟨a0, len0, cap0, rfl⟩ := okWide_slice Try.underlying22 (hval 0 22 v0 rfl rfl)
  have k0 := h0
  have lt0 : ∀ x ∈ p0, x.block < W.heap.size := by obtain ⟨m, hm⟩ := k0; exact DataW.trod_lt m _ _ _ hm
  obtain ⟨z0, w0⟩ : ∃ zs, IsRow .u8 W a0 len0 cap0 zs := by
    obtain ⟨fuel, hf⟩ := h0
    rcases open_ints Try.underlying22 Try.underlying5 (by kernel_rfl) hf with ⟨hcs, _⟩ | ⟨x, l, c, zs, hcs, _, hl, hm, hz, _, hcell, hwz⟩
    · simp [Value.cells] at hcs
      obtain ⟨rfl, rfl, rfl⟩ := hcs
      exact ⟨[], .inl ⟨rfl, rfl, rfl, rfl⟩⟩
    · simp [Value.cells] at hcs
      obtain ⟨rfl, rfl, rfl⟩ := hcs
      exact ⟨zs, .inr ⟨_, rfl, hl, hm, by simpa using hz, hcell, hwz⟩⟩
  clear hA0 hval0
  refine (walk a0 len0 cap0 z0 W w0).mono fun e W' ⟨he, bel⟩ => ?_
  subst he
  exact ⟨_, rfl, _, _, _, [], _, [], hW', trodAll_mk1 (shut_bool Try.underlying4 _), (trodAll_cons_mk (Below.trod laidOut (by kernel_rfl) (of_decide_eq_true (by kernel_rfl)) k0 bel lt0) trodAll_mk0), rfl, bel.frame _, fun h => by cases h⟩

theorem over : Rows.fnBeatsRow.holds Try.pinned (OpenSpec.ofChange Rows.fnBeatsSpec) :=
  OpenClaim.holds_of_wide 4 Try.f4 rfl rfl rfl rfl rfl rfl rfl ⟨rfl, rfl, rfl, rfl, rfl⟩ rfl rfl rfl rfl rfl (by kernel_rfl) Try.func4 (by kernel_rfl)
    (of_decide_eq_true (by kernel_rfl)) (by unfold Func.isWrapper; first | (rw [if_pos (by decide +kernel)]; kernel_rfl) | (rw [if_neg (by decide +kernel)]; exact ⟨rfl, rfl⟩))
    (fun os started H enc _ => lifted os started H enc)

/-- ████ THE STATEMENT ████ -/
theorem proved : Rows.FnBeatsSaid := over
#print axioms proved
end Go.Proofs.Ytfgofmcpgfofaaa.fnBeats
