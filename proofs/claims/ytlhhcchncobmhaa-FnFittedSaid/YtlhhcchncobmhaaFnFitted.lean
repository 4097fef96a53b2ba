/- The law FnFitted, proved: a mode is fitted to its own ringing within the told bounds, by quotients, by least squares, its start, and by spectra.
   Conditions: none beyond the statement's own. -/
import Derived.Test.YtlhhcchncobmhaaFitF
import Derived.Test.YtlhhcchncobmhaaPow
import Derived.Test.YtlhhcchncobmhaaRow
import Derived.Test.YtlhhcchncobmhaaRows
import Derived.Deep.RegionHeld3
namespace Go.Proofs.Ytlhhcchncobmhaa.fnFitted
set_option linter.unusedSimpArgs false
set_option linter.unusedVariables false
open Go Go.ChangeShapes Go.WideShapes Go.ChangeAt Go.RowKit

theorem nw_below {w w' : World} (hb : Nw w w') : Below w.heap.size w w' := ⟨hb.os, hb.tape, hb.output, hb.size, fun k hk => hb.block k hk (by simp)⟩
theorem bys_step {w w1 : World} {a : Option Addr} {len : Nat} (h : Bys w.heap.size a len w) (hb : Below w.heap.size w w1) : Bys w1.heap.size a len w1 := (h.below hb).mono hb.size
theorem nw_of {w w' : World} (h : Below w.heap.size w w') : Nw w w' := ⟨h.os, h.tape, h.output, h.size, fun k hk _ => h.block k hk⟩
theorem bel_nw {B : Nat} {w w1 w2 : World} (h : Below B w w1) (n : Nw w1 w2) (hB : B ≤ w1.heap.size) : Below B w w2 :=
  h.trans ⟨n.os, n.tape, n.output, n.size, fun k hk => n.block k (by omega) (by simp)⟩

theorem read_w1 : Ieee.double.read 4598175219545276416 = .number false 4503599627370496 (-54) := by decide
theorem read_w2 : Ieee.double.read 13821547256400052224 = .number true 4503599627370496 (-54) := by decide
theorem read_w3 : Ieee.double.read 4593671619917905920 = .number false 4503599627370496 (-55) := by decide
theorem read_w4 : Ieee.double.read 13817043656772681728 = .number true 4503599627370496 (-55) := by decide
theorem val_w : Flo.W 4598175219545276416 = 1 / 4 ∧ Flo.W 13821547256400052224 = -(1 / 4) ∧ Flo.W 4593671619917905920 = 1 / 8 ∧ Flo.W 13817043656772681728 = -(1 / 8) := by
  have a := Flo.pw_neg_mul 54
  rw [show Flo.pw 54 = 18014398509481984 from Flo.pw_nat 54] at a
  have b := Flo.pw_neg_mul 55
  rw [show Flo.pw 55 = 36028797018963968 from Flo.pw_nat 55] at b
  have c : ((4503599627370496 : Nat) : Rat) = 4503599627370496 := rfl
  refine ⟨?_, ?_, ?_, ?_⟩
  · rw [show Flo.W 4598175219545276416 = _ from Flo.V_eq read_w1]; unfold Flo.val; rw [if_neg (by decide), c]; grind
  · rw [show Flo.W 13821547256400052224 = _ from Flo.V_eq read_w2]; unfold Flo.val; rw [if_pos rfl, c]; grind
  · rw [show Flo.W 4593671619917905920 = _ from Flo.V_eq read_w3]; unfold Flo.val; rw [if_neg (by decide), c]; grind
  · rw [show Flo.W 13817043656772681728 = _ from Flo.V_eq read_w4]; unfold Flo.val; rw [if_pos rfl, c]; grind
def WOk (W : Nat × Nat) : Prop := Okz W ∧ Sz (Flo.W W.1) (Flo.W W.2) (1 / 4) 1
theorem w_ok : WOk (4598175219545276416, 0) ∧ WOk (13821547256400052224, 0) ∧ WOk (0, 4598175219545276416) ∧ WOk (4593671619917905920, 13817043656772681728) := by
  obtain ⟨a, b, c, d⟩ := val_w
  have z : Flo.W 0 = 0 := unit_ok.2.2.1
  have n0 : Flo.Nm 0 := unit_ok.1.2.1
  refine ⟨⟨⟨⟨_, _, _, read_w1⟩, n0, by decide, by decide⟩, ?_⟩, ⟨⟨⟨_, _, _, read_w2⟩, n0, by decide, by decide⟩, ?_⟩, ⟨⟨n0, ⟨_, _, _, read_w1⟩, by decide, by decide⟩, ?_⟩, ⟨⟨⟨_, _, _, read_w3⟩, ⟨_, _, _, read_w4⟩, by decide, by decide⟩, ?_⟩⟩
  · show Sz (Flo.W 4598175219545276416) (Flo.W 0) _ _
    rw [a, z]; unfold Sz; grind
  · show Sz (Flo.W 13821547256400052224) (Flo.W 0) _ _
    rw [b, z]; unfold Sz; grind
  · show Sz (Flo.W 0) (Flo.W 4598175219545276416) _ _
    rw [a, z]; unfold Sz; grind
  · show Sz (Flo.W 4593671619917905920) (Flo.W 13817043656772681728) _ _
    rw [c, d]; unfold Sz; grind
theorem pick_w (w : World) (T : TypeId) (z : Nat) : ∃ W : Nat × Nat, (w.alloc (.cells #[.complex .f64 4598175219545276416 0, .complex .f64 13821547256400052224 0, .complex .f64 0 4598175219545276416, .complex .f64 4593671619917905920 13817043656772681728] T (0, 0))).cell? ⟨w.heap.size, z % 4, none⟩ = some (.complex .f64 W.1 W.2) ∧ WOk W := by
  obtain ⟨a, b, c, d⟩ := w_ok
  have h : z % 4 = 0 ∨ z % 4 = 1 ∨ z % 4 = 2 ∨ z % 4 = 3 := by omega
  rcases h with h | h | h | h <;> rw [h]
  · exact ⟨_, by go_simp, a⟩
  · exact ⟨_, by go_simp, b⟩
  · exact ⟨_, by go_simp, c⟩
  · exact ⟨_, by go_simp, d⟩

set_option maxHeartbeats 3200000 in
set_option maxRecDepth 100000 in
theorem walk (a0 : Option Addr) (len0 cap0 : Nat) (z0 : List Int) (w : World) (w0 : IsRow .u8 w a0 len0 cap0 z0) :
    Calls Try.prog 6 #[.slice a0 len0 cap0] w fun e w' => e = .returned (.bool true) ∧ Below w.heap.size w w' := by
  by_cases hl : len0 ≤ 1048576
  · have Hb := Lib.hid (bys_of_row w0 (by omega))
    clear w0
    go_enter Try.func6, Try.ntmps6
    go_wp2_with fail
    refine (makePole_any _ _ _ _ Hb.out).mono ?_
    rintro e w1 ⟨pa, pb, rfl, hp, bel1⟩
    have Hp := Lib.hid hp
    obtain ⟨-, -, -, A, B, C, p1, p2, p3, p4⟩ := pole_fair pa pb hp
    have Bel1 := Lib.hid bel1
    have Hb1 := Lib.hid (bys_step Hb.out bel1)
    have t1 : ∀ w, fres w .mul .f64 pa pa = A := fun w => by unfold fres; rw [p1]
    have t2 : ∀ w, fres w .mul .f64 pb pb = B := fun w => by unfold fres; rw [p2]
    have t3 : ∀ w, fres w .add .f64 A B = C := fun w => by unfold fres; rw [p3]
    have d1 : fdr .mul .f64 pa pa = 0 := by unfold fdr; rw [p1]; rfl
    have d2 : fdr .mul .f64 pb pb = 0 := by unfold fdr; rw [p2]; rfl
    have d3 : fdr .add .f64 A B = 0 := by unfold fdr; rw [p3]; rfl
    clear hp bel1 p1 p2 p3
    go_wp2_with fail
    clear t1 t2 t3 d1 d2 d3 p4
    refine (fresh_any _ _ _ _ (by omega) (by omega) _ Hb1.out).mono ?_
    rintro e w2 ⟨g2, l2, c2, rfl, -, -, hf2, bel2⟩
    have Hf2 := Lib.hid hf2
    have Bel2 := Lib.hid (Bel1.out.trans (bel2.mono Bel1.out.size))
    clear hf2 bel2
    go_wp2_with fail
    refine (makeStart_any _ _ _ _ Hf2.out).mono ?_
    rintro e w3 ⟨m, s, rfl, hs, ws, ss, ns, bel3⟩
    have Fa := Lib.hid (fair_of Hp.out hs ws ss ns)
    have St := Lib.hid (start_fair m s hs ws ss ns)
    have Bel3 := Lib.hid (Bel2.out.trans (bel3.mono Bel2.out.size))
    have Hb3 := Lib.hid (bys_step Hb.out Bel3.out)
    clear hs ws ss ns bel3
    go_wp2_with fail
    refine (at_any _ _ _ 1 hl (by omega) _ Hb3.out).mono ?_
    rintro e w4 ⟨z1, hz1, rfl, rfl⟩
    go_wp2_with fail
    obtain ⟨half, hhalf⟩ : ∃ half : Nat, half = 1 + z1 % 20 := ⟨_, rfl⟩
    rw [show (1 + (z1 : Int) % 20) = (half : Int) from by omega]
    have h1 : 1 ≤ half := by omega
    have h20 : half ≤ 20 := by omega
    clear hhalf hz1
    refine (at_any _ _ _ 2 hl (by omega) _ Hb3.out).mono ?_
    rintro e w5 ⟨z2, hz2, rfl, rfl⟩
    go_wp2_with fail
    obtain ⟨n, hn⟩ : ∃ n : Nat, n = 2 * half + z2 % 2 := ⟨_, rfl⟩
    rw [show (2 * (half : Int) + (z2 : Int) % 2) = (n : Int) from by omega]
    have hn2 : 2 * half ≤ n := by omega
    have hn41 : n ≤ 41 := by omega
    clear hn hz2
    refine (ringMode_any pa pb s.1 s.2 n Hp.out.wz St.out.1.2.2 (by omega) _).mono ?_
    rintro e w6 ⟨v, zs, rfl, hzl, hown, hring, n6⟩
    obtain rfl := ringing_list Fa.out zs n hzl (by omega) hring
    obtain ⟨va, vc, rfl⟩ := own_shape' hown
    have R6 := Lib.hid (RowZ.of_own hown hzl)
    have Zl := Lib.hid hzl
    have N6 := Lib.hid n6
    clear hring hown hzl n6
    obtain ⟨qs, qss, qS, qr, q1, q2, q3, q4, q5, q6⟩ := fitQ_told Fa.out n (by omega) hn41
    have C9 := Lib.hid (fun v w h => fitQuotients_ok _ qs qss n Zl.out (by omega) (by omega) q1 q2 qS qr q3 q4 q5 v w h)
    have Q9 := Lib.hid q6
    clear q1 q2 q3 q4 q5 q6
    go_wp2_with fail
    refine (C9.out _ _ R6.out).mono ?_
    rintro e w7 ⟨rfl, n7⟩
    have R7 := Lib.hid (R6.out.nw n7)
    have N7 := Lib.hid (N6.out.trans n7)
    clear n7 C9
    obtain ⟨s1, s2, sr, q1, q2, q3, q4⟩ := fitS_told Fa.out n (by omega) hn41
    have C10 := Lib.hid (fun v w h => fitSquares_ok _ n Zl.out (by omega) (by omega) s1 s2 sr q1 q2 q3 v w h)
    have Q10 := Lib.hid q4
    clear q1 q2 q3 q4
    go_wp2_with fail
    refine (C10.out _ _ R7.out).mono ?_
    rintro e w8 ⟨rfl, n8⟩
    have R8 := Lib.hid (R7.out.nw n8)
    have N8 := Lib.hid (N7.out.trans n8)
    clear n8 C10
    obtain ⟨t1, t2, tr, q1, q2, q3, q4⟩ := fitStart_told Fa.out St.out.2.2.1 St.out.2.2.2.1 St.out.2.2.2.2 n (by omega) hn41
    have C11 := Lib.hid (fun v w h => fitStart_ok _ _ n Zl.out (by omega) (by omega) pa pb Hp.out.wz t1 t2 tr (by simp) (fun y hy hr => ringing_list Fa.out.one y n hy (by omega) hr) q1 q2 q3 v w h)
    have Q11 := Lib.hid q4
    clear q1 q2 q3 q4
    go_wp2_with fail
    refine (C11.out _ _ R8.out).mono ?_
    rintro e w9 ⟨rfl, n9⟩
    have R9 := Lib.hid (R8.out.nw n9)
    have N9 := Lib.hid (N8.out.trans n9)
    clear n9 C11
    have N9' := Lib.hid (N9.out.alloc (.cells #[.complex .f64 4598175219545276416 0, .complex .f64 13821547256400052224 0, .complex .f64 0 4598175219545276416, .complex .f64 4593671619917905920 13817043656772681728] 41 (0, 0)))
    have R9' := Lib.hid (R9.out.nw ((Nw.refl w9).alloc (.cells #[.complex .f64 4598175219545276416 0, .complex .f64 13821547256400052224 0, .complex .f64 0 4598175219545276416, .complex .f64 4593671619917905920 13817043656772681728] 41 (0, 0))))
    go_wp2_with fail
    refine (at_any _ _ _ 3 hl (by omega) _ (bys_step Hb3.out (nw_below N9'.out))).mono ?_
    rintro e w10 ⟨z3, hz3, rfl, rfl⟩
    obtain ⟨W, hW, wok⟩ := pick_w w9 41 z3
    have Wk := Lib.hid wok
    clear wok
    obtain ⟨u1, u2, ur, q1, q2, q3, q4, q5, q6⟩ := fitSp_told Fa.out St.out.2.2.1 St.out.2.1 W Wk.out.1 Wk.out.2 half n h1 h20 hn2
    have C13 := Lib.hid (fun v w h => fitSpectra_ok _ n half Zl.out h1 hn2 (by omega) W u1 u2 ur q1 q2 q3 q4 q5 v w h)
    have Q13 := Lib.hid q6
    clear q1 q2 q3 q4 q5 q6
    go_wp2_with fail
    refine (C13.out _ _ R9'.out).mono ?_
    rintro e w11 ⟨rfl, n11⟩
    have N11 := Lib.hid (N9'.out.trans n11)
    clear n11 C13 hW
    have C14 := Lib.hid (fun w => powerDouble_ok (pa, pb) half (by omega) (powZ (pa, pb)) (sqrZ (pa, pb)) ⟨powZ_zero _, fun m hm => (pow_told Fa.out m (by omega)).1, fun m hm => (pow_told Fa.out m (by omega)).2, fun m hm => powZ_even _ m hm⟩ w)
    obtain ⟨e1, e2, e3⟩ := pow_end Fa.out half h20
    have Q14 := Lib.hid (And.intro e1 (And.intro e2 e3))
    clear e1 e2 e3
    go_wp2_with fail
    refine (C14.out _).mono ?_
    rintro e w12 ⟨rfl, n12⟩
    have N12 := Lib.hid (N11.out.trans n12)
    clear n12 C14
    have u0 := Flo.u_pos
    have us := u_tin
    have p40 : Flo.pw (-((40 : Nat) : Int)) = 8192 * Flo.u := by
      rw [show (8192 : Rat) = Flo.pw 13 from (Flo.pw_nat 13).symm, show Flo.u = Flo.pw (-53) from rfl, ← Flo.pw_add]; rfl
    have p36 : Flo.pw (-((36 : Nat) : Int)) = 131072 * Flo.u := by
      rw [show (131072 : Rat) = Flo.pw 17 from (Flo.pw_nat 17).symm, show Flo.u = Flo.pw (-53) from rfl, ← Flo.pw_add]; rfl
    have q40 := power_bits 40 (by omega)
    rw [show (-((40 : Nat) : Int)) = -40 from rfl] at q40
    have P40 := Lib.hid q40
    have q36 := power_bits 36 (by omega)
    rw [show (-((36 : Nat) : Int)) = -36 from rfl] at q36
    have P36 := Lib.hid q36
    clear q40 q36
    have T1 := Lib.hid (fun w => nearDouble_ok qr.1 qr.2 pa pb 40 (3900 * Flo.u) (by omega) Q9.out.1 Q9.out.2.1 Fa.out.pOk.1 Fa.out.pOk.2.1 Q9.out.2.2.1 Q9.out.2.2.2 (by grind) (by grind) (by rw [p40]; grind) w)
    have T2 := Lib.hid (fun w1 w2 w3 => near_gen sr.1 sr.2 pa pb 40 (3900 * Flo.u) (by omega) Q10.out.1 Q10.out.2.1 Fa.out.pOk.1 Fa.out.pOk.2.1 Q10.out.2.2.1 Q10.out.2.2.2 (by grind) (by grind) (by rw [p40]; grind) w1 w2 w3)
    have T3 := Lib.hid (fun w1 w2 w3 => near_gen tr.1 tr.2 s.1 s.2 36 (40000 * Flo.u) (by omega) Q11.out.1 Q11.out.2.1 Fa.out.sOk.1 Fa.out.sOk.2.1 Q11.out.2.2.1 Q11.out.2.2.2 (by grind) (by grind) (by rw [p36]; grind) w1 w2 w3)
    obtain ⟨x1, x2, x3, x4⟩ := Q13.out
    obtain ⟨y1, y2, y3⟩ := Q14.out
    have T4 := Lib.hid (fun w1 w2 w3 => near_gen ur.1 ur.2 (powZ (pa, pb) half).1 (powZ (pa, pb) half).2 36 (32000 * Flo.u) (by omega) x1 x2 y1.1 y1.2.1 (((x3.sub y2).eq (by grind)).mono (by grind)) (((x4.sub y3).eq (by grind)).mono (by grind)) (by grind) (by grind) (by rw [p36]; grind) w1 w2 w3)
    clear x1 x2 x3 x4 y1 y2 y3 p40 p36 u0 us
    go_wp2_with fail
    refine (P40.out _).mono ?_
    rintro e w13 ⟨rfl, rfl⟩
    go_wp2_with fail
    refine (T1.out _).mono ?_
    rintro e w14 ⟨rfl, n14, rfl⟩
    go_wp2_with fail
    refine (P40.out _).mono ?_
    rintro e w15 ⟨rfl, rfl⟩
    go_wp2_with fail
    refine (small_any _ _ _ _ _ _).mono ?_
    rintro e w16 ⟨wa, wb, wc', n16, rfl, rfl⟩
    rw [T2.out]
    go_wp2_with fail
    refine (P36.out _).mono ?_
    rintro e w17 ⟨rfl, rfl⟩
    go_wp2_with fail
    refine (small_any _ _ _ _ _ _).mono ?_
    rintro e w18 ⟨wa, wb, wc', n18, rfl, rfl⟩
    rw [T3.out]
    go_wp2_with fail
    refine (P36.out _).mono ?_
    rintro e w19 ⟨rfl, rfl⟩
    go_wp2_with fail
    refine (small_any _ _ _ _ _ _).mono ?_
    rintro e w20 ⟨wa, wb, wc', n20, rfl, rfl⟩
    rw [T4.out]
    go_wp2_with fail
    go_ret
    refine ⟨rfl, ?_⟩
    exact (Bel3.out.trans ((nw_below (N12.out.draw _)).mono Bel3.out.size))
  · clear w0
    go_enter Try.func6, Try.ntmps6
    go_wp2
    go_ret
    exact ⟨rfl, Below.refl _ _⟩

/-! ### THE ROW's STEP: WRITTEN OUT: LEAVE IT -/
set_option maxRecDepth 100000 in
theorem lifted (os : Os) (started : os.Started) (H : Type) (enc : TypeId × Value → H) :
    ReturnsInHanded {} Try.checked os 6 .any (Rows.fnFittedSpec.pre6 enc Try.prog Try.f6 Rows.fnFittedRow.domain false) (Rows.fnFittedSpec.post enc Try.prog Try.f6 false true false false) := by
  refine returnsInHanded_of_change (C := Try.checked) own started (by kernel_rfl) Try.func6
    (ChangeSpec.witness6 (enc := enc) (C := Try.checked) false ⟨#[], #[.slice none 0 0], []⟩ 8 (by kernel_rfl) (by kernel_rfl) (by kernel_rfl) (by kernel_rfl)) ?_
  intro W base args ds gs before hval0 hW hcnd _
  have hval : ∀ (j : Nat) t v, Try.f6.params[j]? = some t → args[j]? = some v → Value.okWide Try.prog W .any base t v := hval0
  have hW' := hW
  obtain ⟨p, q, hA0, hV, rfl, hfz, hnd⟩ := hW
  have hA : DataW.TrodAll enc Try.prog W 0 (fun _ => true) true Try.f6.params.toList args.toList ds p := hA0
  rw [Try.params6] at hA hval
  obtain ⟨v0, vs0, d0, ds0, p0, q0, hargs, rfl, rfl, h0, r0⟩ := trodAll_cons hA
  obtain ⟨rfl, rfl, rfl⟩ := trodAll_nil r0
  obtain rfl : args = #[v0] := by cases args; simp_all
  obtain ⟨rfl, rfl⟩ := trodVars_none hV
  obtain ⟨a0, len0, cap0, rfl⟩ := okWide_slice Try.underlying22 (hval 0 22 v0 rfl rfl)
  have k0 := h0
  have lt0 : ∀ x ∈ p0, x.block < W.heap.size := by obtain ⟨m, hm⟩ := k0; exact DataW.trod_lt m _ _ _ hm
  obtain ⟨z0, w0⟩ : ∃ zs, IsRow .u8 W a0 len0 cap0 zs := by
    obtain ⟨fuel, hf⟩ := h0
    rcases open_ints Try.underlying22 Try.underlying5 (by kernel_rfl) hf with ⟨hcs, _⟩ | ⟨x, l, c, zs, hcs, _, hl, hm, hz, _, hcell, hwz⟩
    · simp [Value.cells] at hcs
      obtain ⟨rfl, rfl, rfl⟩ := hcs
      exact ⟨[], .inl ⟨rfl, rfl, rfl, rfl⟩⟩
    · simp [Value.cells] at hcs
      obtain ⟨rfl, rfl, rfl⟩ := hcs
      exact ⟨zs, .inr ⟨_, rfl, hl, hm, by simpa using hz, hcell, hwz⟩⟩
  clear hA0 hval0
  refine (walk a0 len0 cap0 z0 W w0).mono fun e W' ⟨he, bel⟩ => ?_
  subst he
  exact ⟨_, rfl, _, _, _, [], _, [], hW', trodAll_mk1 (shut_bool Try.underlying4 _), (trodAll_cons_mk (Below.trod laidOut (by kernel_rfl) (of_decide_eq_true (by kernel_rfl)) k0 bel lt0) trodAll_mk0), rfl, bel.frame _, fun h => by cases h⟩

theorem over : Rows.fnFittedRow.holds Try.pinned (OpenSpec.ofChange Rows.fnFittedSpec) :=
  OpenClaim.holds_of_wide 6 Try.f6 rfl rfl rfl rfl rfl rfl rfl ⟨rfl, rfl, rfl, rfl, rfl⟩ rfl rfl rfl rfl rfl (by kernel_rfl) Try.func6 (by kernel_rfl)
    (of_decide_eq_true (by kernel_rfl)) (by unfold Func.isWrapper; first | (rw [if_pos (by decide +kernel)]; kernel_rfl) | (rw [if_neg (by decide +kernel)]; exact ⟨rfl, rfl⟩))
    (fun os started H enc _ => lifted os started H enc)

/-- ████ THE STATEMENT ████ -/
theorem proved : Rows.FnFittedSaid := over
#print axioms proved
end Go.Proofs.Ytlhhcchncobmhaa.fnFitted

