/- The law FnMeasured, proved: a mode that is measured is fitted within 2^-40, and drifts by no more than is told, if the size of its pole is at least 1/4 and that of its gain at least 1/16, for 2 to 40 steps.
   Conditions: none beyond the statement's own. -/
import Derived.Test.YtlhhcchncobmhaaMeasW
import Derived.Test.YtlhhcchncobmhaaRow
import Derived.Test.YtlhhcchncobmhaaRows
import Derived.Deep.RegionHeld3
import Derived.BigQuiet
namespace Go.Proofs.Ytlhhcchncobmhaa.fnMeasured
set_option linter.unusedSimpArgs false
set_option linter.unusedVariables false
open Go Go.ChangeShapes Go.WideShapes Go.ChangeAt Go.RowKit

theorem nw_below {w w' : World} (hb : Nw w w') : Below w.heap.size w w' := ⟨hb.os, hb.tape, hb.output, hb.size, fun k hk => hb.block k hk (by simp)⟩
theorem bys_step {w w1 : World} {a : Option Addr} {len : Nat} (h : Bys w.heap.size a len w) (hb : Below w.heap.size w w1) : Bys w1.heap.size a len w1 := (h.below hb).mono hb.size
theorem nw_of {w w' : World} (h : Below w.heap.size w w') : Nw w w' := ⟨h.os, h.tape, h.output, h.size, fun k hk _ => h.block k hk⟩
theorem bel_nw {B : Nat} {w w1 w2 : World} (h : Below B w w1) (n : Nw w1 w2) (hB : B ≤ w1.heap.size) : Below B w w2 :=
  h.trans ⟨n.os, n.tape, n.output, n.size, fun k hk => n.block k (by omega) (by simp)⟩


/-- the law's tests of the error and of nearness, where the fit is told -/
theorem err_near (m : M4) (F : Fair (polM m) (gaiM m)) (x y : Nat) (h : FitTold (polM m) (3900 * Flo.u) (x, y)) (w1 w2 w3 : World) :
    leB (errV w1 w2 w3 x y (wid m.pr) (wid m.pi)) (powB 40) = true ∧ ∀ w, Calls Try.prog 27 #[.complex .f64 x y, .complex .f64 (wid m.pr) (wid m.pi), .float .f64 (powB 40)] w fun e w' => e = .returned (.bool true) ∧ ∃ n, w' = w.drewN n := by
  obtain ⟨h1, h2, h3, h4⟩ := h
  have u0 := Flo.u_pos
  have us := u_tin
  have p40 : Flo.pw (-((40 : Nat) : Int)) = 8192 * Flo.u := by
    rw [show (8192 : Rat) = Flo.pw 13 from (Flo.pw_nat 13).symm, show Flo.u = Flo.pw (-53) from rfl, ← Flo.pw_add]; rfl
  have hbig : (1 : Rat) < Flo.pw 1023 := by rw [← Flo.pw_zero]; exact Flo.pw_lt (by omega)
  have T := fun w1 w2 w3 => near_gen x y (wid m.pr) (wid m.pi) 40 (3900 * Flo.u) (by omega) h1 h2 F.pOk.1 F.pOk.2.1 h3 h4 (by grind) (by grind) (by rw [p40]; grind) w1 w2 w3
  constructor
  · obtain ⟨r, r1, r2, -⟩ := Flo.d_sub x (wid m.pr) h1 F.pOk.1 (3900 * Flo.u) h3 (by grind)
    obtain ⟨s, s1, s2, -⟩ := Flo.d_sub y (wid m.pi) h2 F.pOk.2.1 (3900 * Flo.u) h4 (by grind)
    have fr1 : ∀ w, fres w .sub .f64 x (wid m.pr) = r := fun w => by unfold fres; rw [r1]
    have fr2 : ∀ w, fres w .sub .f64 y (wid m.pi) = s := fun w => by unfold fres; rw [s1]
    have t := T w1 w2 w3
    unfold errV leB
    rw [fr1, fr2] at t ⊢
    rw [labs_mod r (floatBits_wf' r1) r2, labs_mod s (floatBits_wf' s1) s2]
    exact t
  · intro w
    refine (small_any _ _ _ _ _ _).mono ?_
    rintro e w1 ⟨a, b, c, n, rfl, rfl⟩
    rw [T]
    exact ⟨rfl, n, rfl⟩

set_option maxHeartbeats 3200000 in
set_option maxRecDepth 100000 in
theorem walk (a0 : Option Addr) (len0 cap0 : Nat) (z0 : List Int) (w : World) (w0 : IsRow .u8 w a0 len0 cap0 z0) :
    Calls Try.prog 7 #[.slice a0 len0 cap0] w fun e w' => e = .returned (.bool true) ∧ Below w.heap.size w w' := by
  by_cases hl : len0 ≤ 1048576
  · have Hb := Lib.hid (bys_of_row w0 (by omega))
    clear w0
    have q20 := power_bits 20 (by omega)
    rw [show (-((20 : Nat) : Int)) = -20 from rfl] at q20
    have P20 := Lib.hid q20
    have q100 := power_bits 100 (by omega)
    rw [show (-((100 : Nat) : Int)) = -100 from rfl] at q100
    have P100 := Lib.hid q100
    have q40 := power_bits 40 (by omega)
    rw [show (-((40 : Nat) : Int)) = -40 from rfl] at q40
    have P40 := Lib.hid q40
    clear q20 q100 q40
    go_enter Try.func7, Try.ntmps7
    go_wp2_with fail
    refine (makeMode_any _ _ _ _ Hb.out).mono ?_
    rintro e w1 ⟨pr, pi, gr, gi, rfl, hm, n1⟩
    obtain ⟨m, hmm⟩ : ∃ m : M4, m = ⟨pr, pi, gr, gi⟩ := ⟨_, rfl⟩
    obtain ⟨rfl, rfl, rfl, rfl⟩ : pr = m.pr ∧ pi = m.pi ∧ gr = m.gr ∧ gi = m.gi := by rw [hmm]; exact ⟨rfl, rfl, rfl, rfl⟩
    clear hmm
    have Hm := Lib.hid (show m.ok from hm)
    have B1 := Lib.hid (new2 w1 61 (.complex .f32 m.pr m.pi) (.complex .f32 m.gr m.gi))
    have N1 := Lib.hid (n1.alloc (.cells #[.complex .f32 m.pr m.pi, .complex .f32 m.gr m.gi] 61 (0, 0)))
    obtain ⟨s1, s2, s3, s4⟩ := Hm.out.nums
    have HS := Lib.hid (And.intro s1 (And.intro s2 (And.intro s3 s4)))
    clear hm n1 s1 s2 s3 s4
    go_wp2_with fail
    refine (at_any _ _ _ 1 hl (by omega) _ (bys_step Hb.out (nw_below N1.out))).mono ?_
    rintro e w2 ⟨z1, hz1, rfl, rfl⟩
    obtain ⟨⟨c0, f0⟩, ⟨c1, f1⟩⟩ := two_at B1.out
    go_wp2_with fail
    obtain ⟨n, hn⟩ : ∃ n : Nat, n = 2 + z1 % 39 := ⟨_, rfl⟩
    rw [show (2 + (z1 : Int) % 39) = (n : Int) from by omega]
    have h2 : 2 ≤ n := by omega
    have h40 : n ≤ 40 := by omega
    clear hn hz1
    refine (measure_ok m Hm.out n h2 (by omega) _).mono ?_
    rintro e w3 ⟨h, x, y, d, wa, wb, wc, rfl, hh0, hhn, nd, wd, hfit, n3⟩
    obtain ⟨er, her⟩ : ∃ er, er = errV wa wb wc x y (wid m.pr) (wid m.pi) := ⟨_, rfl⟩
    rw [← her]
    have Er := Lib.hid her
    have Hd := Lib.hid (And.intro nd wd)
    have Hf := Lib.hid hfit
    have Rp := Lib.hid (new4 w3 64 (.int .i64 h) (.complex .f64 x y) (.float .f64 er) (.float .f64 d))
    have B3 := Lib.hid ((B1.out.nw n3).alloc (.cells #[.int .i64 h, .complex .f64 x y, .float .f64 er, .float .f64 d] 64 (0, 0)))
    have N3 := Lib.hid ((N1.out.trans n3).alloc (.cells #[.int .i64 h, .complex .f64 x y, .float .f64 er, .float .f64 d] 64 (0, 0)))
    clear her nd wd hfit n3 c0 f0 c1 f1
    obtain ⟨⟨c0, f0⟩, ⟨c1, f1⟩⟩ := two_at B3.out
    obtain ⟨⟨r0, -⟩, ⟨r1, -⟩, ⟨r2, -⟩, ⟨r3, -⟩⟩ := four_at Rp.out
    have a1 := fcv_up HS.out.1
    have a2 := fcv_up HS.out.2.1
    have a3 := fcv_up HS.out.2.2.1
    have a4 := fcv_up HS.out.2.2.2
    have d1 := fcd_up HS.out.1
    have d2 := fcd_up HS.out.2.1
    have d3 := fcd_up HS.out.2.2.1
    have d4 := fcd_up HS.out.2.2.2
    go_wp2_with fail
    refine (sizeDouble_fin _ _ _ (wid_lt _) (wid_lt _) (wid_num HS.out.2.2.1).1 (wid_num HS.out.2.2.2).1).mono ?_
    rintro e w4 ⟨rfl, q4, rfl⟩
    have Rp4 := Lib.hid (Rp.out.draw q4)
    have N4 := Lib.hid (N3.out.draw q4)
    clear c0 f0 c1 f1 r0 r1 r2 r3 a1 a2 a3 a4 d1 d2 d3 d4
    obtain ⟨⟨r0, -⟩, ⟨r1, -⟩, ⟨r2, -⟩, ⟨r3, -⟩⟩ := four_at Rp4.out
    have i1 : ¬ h < 0 := by omega
    have i2 : ¬ (n : Int) < h := by omega
    go_wp2_with fail
    refine (sizeDouble_fin _ _ _ (wid_lt _) (wid_lt _) (wid_num HS.out.1).1 (wid_num HS.out.2.1).1).mono ?_
    rintro e w5 ⟨rfl, q5, rfl⟩
    have Rp5 := Lib.hid (Rp4.out.draw q5)
    have N5 := Lib.hid (N4.out.draw q5)
    clear r0 r1 r2 r3
    generalize ((w3.alloc (.cells #[.int .i64 h, .complex .f64 x y, .float .f64 er, .float .f64 d] 64 (0, 0))).drewN q4).drewN q5 = w6 at *
    obtain ⟨⟨r0, -⟩, ⟨r1, -⟩, ⟨r2, -⟩, ⟨r3, -⟩⟩ := four_at Rp5.out
    cases hs1 : (FloatKind.f64.format.order (szd (wid m.pr) (wid m.pi)) 4598175219545276416 == some .lt) with
    | true =>
      go_wp2_with fail
      go_ret
      exact ⟨rfl, nw_below N5.out⟩
    | false =>
      cases hs2 : (FloatKind.f64.format.order (szd (wid m.gr) (wid m.gi)) 4589168020290535424 == some .lt) with
      | true =>
        go_wp2_with fail
        go_ret
        exact ⟨rfl, nw_below N5.out⟩
      | false =>
        have F := fair_mode m Hm.out hs1 hs2
        have e1 := err_near m F x y (Hf.out F) wa wb wc
        rw [← Er.out] at e1
        obtain ⟨e2, e3⟩ := e1
        have E3 := Lib.hid e3
        obtain ⟨g1, g2, g3⟩ := gain_ok m Hm.out
        obtain ⟨nA, vA⟩ := Flo.int_double ((n : Int) + 2) (by omega)
        have hNr : (((n : Int) + 2 : Int) : Rat) = (n : Rat) + 2 := by push_cast; rfl
        rw [hNr] at vA
        have hn0 : (0 : Rat) ≤ (n : Rat) := by exact_mod_cast Nat.zero_le n
        have hn4 : (n : Rat) ≤ 40 := by
          have : ((n : Nat) : Rat) ≤ ((40 : Nat) : Rat) := by exact_mod_cast h40
          exact this
        obtain ⟨t1, t2, t3, t4⟩ := meas_drift (floatOfInt .f64 ((n : Int) + 2)) (szd (wid m.gr) (wid m.gi)) d ((n : Rat) + 2) (gm m) nA vA (by grind) (by grind) g1 g2 (gm_nonneg m) (by grind) Hd.out.1 Hd.out.2
        have rr1 := t1.runs (P := Try.prog) (.inr (.inr rfl)) 49
        have rr2 := t2.runs (P := Try.prog) (.inr (.inr rfl)) 49
        have rr3 := t3.runs (P := Try.prog) (.inl rfl) 49
        unfold leB at t4 e2
        clear t1 t2 t3 g1 g2 g3 nA vA hNr hn0 hn4 F e3
        go_wp2_with fail
        go_quiet (first
          | (go_at_call 28; with_reducible exact quiet_eq (P20.out _))
          | (go_at_call 28; with_reducible exact quiet_eq (P40.out _))
          | (go_at_call 28; with_reducible exact quiet_eq (P100.out _))
          | (go_at_call 27; exact Calls.quiet_of (E3.out _)))
        go_wp2
        go_ret
        exact ⟨rfl, nw_below (N5.out.draw _)⟩
  · clear w0
    go_enter Try.func7, Try.ntmps7
    go_wp2
    go_ret
    exact ⟨rfl, Below.refl _ _⟩

/-! ### THE ROW's STEP: WRITTEN OUT: LEAVE IT -/
set_option maxRecDepth 100000 in
theorem lifted (os : Os) (started : os.Started) (H : Type) (enc : TypeId × Value → H) :
    ReturnsInHanded {} Try.checked os 7 .any (Rows.fnMeasuredSpec.pre6 enc Try.prog Try.f7 Rows.fnMeasuredRow.domain false) (Rows.fnMeasuredSpec.post enc Try.prog Try.f7 false true false false) := by
  refine returnsInHanded_of_change (C := Try.checked) own started (by kernel_rfl) Try.func7
    (ChangeSpec.witness6 (enc := enc) (C := Try.checked) false ⟨#[], #[.slice none 0 0], []⟩ 8 (by kernel_rfl) (by kernel_rfl) (by kernel_rfl) (by kernel_rfl)) ?_
  intro W base args ds gs before hval0 hW hcnd _
  have hval : ∀ (j : Nat) t v, Try.f7.params[j]? = some t → args[j]? = some v → Value.okWide Try.prog W .any base t v := hval0
  have hW' := hW
  obtain ⟨p, q, hA0, hV, rfl, hfz, hnd⟩ := hW
  have hA : DataW.TrodAll enc Try.prog W 0 (fun _ => true) true Try.f7.params.toList args.toList ds p := hA0
  rw [Try.params7] at hA hval
  obtain ⟨v0, vs0, d0, ds0, p0, q0, hargs, rfl, rfl, h0, r0⟩ := trodAll_cons hA
  obtain ⟨rfl, rfl, rfl⟩ := trodAll_nil r0
  obtain rfl : args = #[v0] := by cases args; simp_all
  obtain ⟨rfl, rfl⟩ := trodVars_none hV
  obtain ⟨a0, len0, cap0, rfl⟩ := okWide_slice Try.underlying22 (hval 0 22 v0 rfl rfl)
  have k0 := h0
  have lt0 : ∀ x ∈ p0, x.block < W.heap.size := by obtain ⟨m, hm⟩ := k0; exact DataW.trod_lt m _ _ _ hm
  obtain ⟨z0, w0⟩ : ∃ zs, IsRow .u8 W a0 len0 cap0 zs := by
    obtain ⟨fuel, hf⟩ := h0
    rcases open_ints Try.underlying22 Try.underlying5 (by kernel_rfl) hf with ⟨hcs, _⟩ | ⟨x, l, c, zs, hcs, _, hl, hm, hz, _, hcell, hwz⟩
    · simp [Value.cells] at hcs
      obtain ⟨rfl, rfl, rfl⟩ := hcs
      exact ⟨[], .inl ⟨rfl, rfl, rfl, rfl⟩⟩
    · simp [Value.cells] at hcs
      obtain ⟨rfl, rfl, rfl⟩ := hcs
      exact ⟨zs, .inr ⟨_, rfl, hl, hm, by simpa using hz, hcell, hwz⟩⟩
  clear hA0 hval0
  refine (walk a0 len0 cap0 z0 W w0).mono fun e W' ⟨he, bel⟩ => ?_
  subst he
  exact ⟨_, rfl, _, _, _, [], _, [], hW', trodAll_mk1 (shut_bool Try.underlying4 _), (trodAll_cons_mk (Below.trod laidOut (by kernel_rfl) (of_decide_eq_true (by kernel_rfl)) k0 bel lt0) trodAll_mk0), rfl, bel.frame _, fun h => by cases h⟩

theorem over : Rows.fnMeasuredRow.holds Try.pinned (OpenSpec.ofChange Rows.fnMeasuredSpec) :=
  OpenClaim.holds_of_wide 7 Try.f7 rfl rfl rfl rfl rfl rfl rfl ⟨rfl, rfl, rfl, rfl, rfl⟩ rfl rfl rfl rfl rfl (by kernel_rfl) Try.func7 (by kernel_rfl)
    (of_decide_eq_true (by kernel_rfl)) (by unfold Func.isWrapper; first | (rw [if_pos (by decide +kernel)]; kernel_rfl) | (rw [if_neg (by decide +kernel)]; exact ⟨rfl, rfl⟩))
    (fun os started H enc _ => lifted os started H enc)

/-- ████ THE STATEMENT ████ -/
theorem proved : Rows.FnMeasuredSaid := over
#print axioms proved
end Go.Proofs.Ytlhhcchncobmhaa.fnMeasured

