/- Plain: the poles and starts of the law FnFitted; its test of nearness.
   Conditions: those that each statement names. -/
import Derived.Test.YtlhhcchncobmhaaFitD
import Derived.Test.YtlhhcchncobmhaaPairW
import Derived.Test.YtlhhcchncobmhaaUnit
namespace Go.Proofs.Ytlhhcchncobmhaa
set_option linter.unusedSimpArgs false
set_option linter.unusedVariables false
open Go Go.RowKit

theorem near_gen (a b c d j : Nat) (B : Rat) (hj : j ≤ 900) (ha : Flo.Nm a) (hb : Flo.Nm b) (hc : Flo.Nm c) (hd : Flo.Nm d) (h1 : Flo.Ab (Flo.W a - Flo.W c) B) (h2 : Flo.Ab (Flo.W b - Flo.W d) B) (hu : Flo.u ≤ B) (hB1 : B ≤ 1) (hB : 2 * B + B / 1024 ≤ Flo.pw (-(j : Int))) (w1 w2 w3 : World) :
    (FloatKind.f64.format.order (fres w3 .add .f64 (labs (fres w1 .sub .f64 a c)) (labs (fres w2 .sub .f64 b d))) (powB j) == some .lt ||
      FloatKind.f64.format.order (fres w3 .add .f64 (labs (fres w1 .sub .f64 a c)) (labs (fres w2 .sub .f64 b d))) (powB j) == some .eq) = true := by
  have u0 := Flo.u_pos
  have u1 := u_tin
  have B0 : 0 ≤ B := h1.nonneg
  have het : Flo.et ≤ Flo.u * Flo.u := by
    rw [show Flo.u = Flo.pw (-53) from rfl, ← Flo.pw_add]
    exact Flo.pw_le (by omega)
  have huu : Flo.u * Flo.u ≤ Flo.u * B := Rat.mul_le_mul_of_nonneg_left hu (Rat.le_of_lt u0)
  have huB : Flo.u * B * 1048576 ≤ B := by have := Rat.mul_le_mul_of_nonneg_right u1 B0; grind
  have hbig : (4 : Rat) < Flo.pw 1023 := by
    have : Flo.pw 2 < Flo.pw 1023 := Flo.pw_lt (by omega)
    rwa [show Flo.pw 2 = 4 from Flo.pw_nat 2] at this
  obtain ⟨r, r1, r2, r3⟩ := Flo.d_sub a c ha hc B h1 (by grind)
  obtain ⟨s, s1, s2, s3⟩ := Flo.d_sub b d hb hd B h2 (by grind)
  have rr : Flo.Ab (Flo.W r) (B + 2 * (Flo.u * B)) := ((r3.add h1).eq (show _ = Flo.W r by grind)).mono (by grind)
  have ss : Flo.Ab (Flo.W s) (B + 2 * (Flo.u * B)) := ((s3.add h2).eq (show _ = Flo.W s by grind)).mono (by grind)
  have lr := labs_num r (floatBits_wf' r1) r2
  have ls := labs_num s (floatBits_wf' s1) s2
  have br := ra_le rr
  have bs := ra_le ss
  have nr := ra_nonneg (Flo.W r)
  have ns := ra_nonneg (Flo.W s)
  obtain ⟨t, t1, t2, t3⟩ := Flo.d_add (labs r) (labs s) lr.1 ls.1 (3 * B) (by rw [lr.2, ls.2]; exact ⟨by grind, by grind⟩) (by grind)
  have hk := powB_ok j hj
  have fr1 : fres w1 .sub .f64 a c = r := by unfold fres; rw [r1]
  have fr2 : fres w2 .sub .f64 b d = s := by unfold fres; rw [s1]
  have fr3 : fres w3 .add .f64 (labs r) (labs s) = t := by unfold fres; rw [t1]
  rw [fr1, fr2, fr3, show FloatKind.f64.format = Ieee.double from rfl, Bool.or_eq_true, beq_iff_eq, beq_iff_eq]
  have o := Flo.order_num Ieee.double t (powB j) t2 hk.1
  rw [o.1, o.2.1]
  rw [lr.2, ls.2] at t3
  have h9 : Flo.W (powB j) = Flo.pw (-(j : Int)) := hk.2
  have hW : Flo.W t ≤ Flo.W (powB j) := by rw [h9]; have := t3.2; grind
  show Flo.W t < Flo.W (powB j) ∨ Flo.W t = Flo.W (powB j)
  rcases Rat.le_iff_lt_or_eq.1 hW with h | h
  · exact .inl h
  · exact .inr h

/-! ### the pole -/
theorem pw_m10 : Flo.pw (-10) = 1 / 1024 := by
  have a := Flo.pw_neg_mul 10
  rw [show Flo.pw 10 = 1024 from Flo.pw_nat 10] at a
  grind
theorem pw_m20 : Flo.pw (-20) = 1 / 1048576 := by
  have a := Flo.pw_neg_mul 20
  rw [show Flo.pw 20 = 1048576 from Flo.pw_nat 20] at a
  grind
theorem pw_m4 : Flo.pw (-4) = 1 / 16 := by
  have a := Flo.pw_neg_mul 4
  rw [show Flo.pw 4 = 16 from Flo.pw_nat 4] at a
  grind
theorem pw_m53 : Flo.pw (-53) = 1 / 9007199254740992 := by
  have a := Flo.pw_neg_mul 53
  rw [show Flo.pw 53 = 9007199254740992 from Flo.pw_nat 53] at a
  grind
theorem num_pole : Flo.Nm 4603579539098121011 ∧ Flo.Nm 13828753015803845018 ∧ Flo.W 4603579539098121011 = 5404319552844595 / 9007199254740992 ∧ Flo.W 13828753015803845018 = -(7205759403792794 / 9007199254740992) := by
  have r1 : Ieee.double.read 4603579539098121011 = .number false 5404319552844595 (-53) := by decide
  have r2 : Ieee.double.read 13828753015803845018 = .number true 7205759403792794 (-53) := by decide
  refine ⟨⟨_, _, _, r1⟩, ⟨_, _, _, r2⟩, ?_, ?_⟩
  · rw [show Flo.W 4603579539098121011 = _ from Flo.V_eq r1]
    unfold Flo.val
    rw [pw_m53, if_neg (by decide), show ((5404319552844595 : Nat) : Rat) = 5404319552844595 from rfl]
    grind
  · rw [show Flo.W 13828753015803845018 = _ from Flo.V_eq r2]
    unfold Flo.val
    rw [pw_m53, if_pos rfl, show ((7205759403792794 : Nat) : Rat) = 7205759403792794 from rfl]
    grind
theorem int_abs (i : Int) : ra ((i : Rat) * Flo.pw (-10)) = ((i.natAbs : Int) : Rat) * Flo.pw (-10) := by
  have p := Flo.pw_pos (-10)
  unfold ra
  by_cases h : 0 ≤ i
  · have h1 : (0 : Rat) ≤ (i : Rat) := by exact_mod_cast h
    have h2 : ¬ (i : Rat) * Flo.pw (-10) < 0 := by have := Rat.mul_nonneg h1 (Rat.le_of_lt p); grind
    rw [if_neg h2, Int.natAbs_of_nonneg h]
  · have h1 : (i : Rat) < 0 := by have : i < 0 := by omega
                                  exact_mod_cast this
    have h2 : (i : Rat) * Flo.pw (-10) < 0 := by have := Rat.mul_pos (show 0 < -(i : Rat) by grind) p; grind
    rw [if_pos h2, show ((i.natAbs : Nat) : Int) = -i from by omega]
    push_cast
    grind
theorem pole_fair (x y : Nat) (h : PoleB x y) : Okz (x, y) ∧ 1 / 32 ≤ nz (x, y) ∧ nz (x, y) ≤ 1 + 1 / 1024 ∧
    ∃ a b c, floatBits .mul .f64 x x = some a ∧ floatBits .mul .f64 y y = some b ∧ floatBits .add .f64 a b = some c ∧ (FloatKind.f64.format.order c 4607182418800017408 == some .gt) = false := by
  rcases h with ⟨i, j, hi, hj, rfl, rfl, hs⟩ | ⟨rfl, rfl⟩
  · have t1 := (tenB_ok i (by omega)).2
    have t2 := (tenB_ok j (by omega)).2
    have l1 := labs_num (tenB i) (tenB_lt i (by omega)) t1.1
    have l2 := labs_num (tenB j) (tenB_lt j (by omega)) t2.1
    have ii : i * i ≤ 524176 := by
      have e := Int.natAbs_mul_self' i
      have g : (i.natAbs : Int) * (i.natAbs : Int) ≤ 724 * 724 := Int.mul_le_mul (by omega) (by omega) (by omega) (by omega)
      omega
    have jj : j * j ≤ 524176 := by
      have e := Int.natAbs_mul_self' j
      have g : (j.natAbs : Int) * (j.natAbs : Int) ≤ 724 * 724 := Int.mul_le_mul (by omega) (by omega) (by omega) (by omega)
      omega
    have ii0 : 0 ≤ i * i := by rw [← Int.natAbs_mul_self' i]; exact Int.mul_nonneg (by omega) (by omega)
    have jj0 : 0 ≤ j * j := by rw [← Int.natAbs_mul_self' j]; exact Int.mul_nonneg (by omega) (by omega)
    have m1 : Flo.Dy (-10) (i.natAbs : Int) (labs (tenB i)) := ⟨l1.1, by rw [l1.2, t1.2, int_abs]⟩
    have m2 : Flo.Dy (-10) (j.natAbs : Int) (labs (tenB j)) := ⟨l2.1, by rw [l2.2, t2.2, int_abs]⟩
    obtain ⟨s, s1, s2⟩ := Flo.dy_add m1 m2 (by omega) (by omega) (by omega)
    have es : szd (tenB i) (tenB j) = s := by unfold szd; rw [s1]; rfl
    have q4 : Flo.Nm 4598175219545276416 ∧ Flo.W 4598175219545276416 = 1 / 4 := by
      have r : Ieee.double.read 4598175219545276416 = .number false 4503599627370496 (-54) := by decide
      refine ⟨⟨_, _, _, r⟩, ?_⟩
      rw [show Flo.W 4598175219545276416 = _ from Flo.V_eq r]
      unfold Flo.val
      have a := Flo.pw_neg_mul 54
      rw [show Flo.pw 54 = 18014398509481984 from Flo.pw_nat 54] at a
      rw [if_neg (by decide), show ((4503599627370496 : Nat) : Rat) = 4503599627370496 from rfl]
      grind
    have hge : 256 ≤ i.natAbs + j.natAbs := by
      rcases Nat.lt_or_ge (i.natAbs + j.natAbs) 256 with g | g
      · exfalso
        have o := (Flo.order_num Ieee.double s 4598175219545276416 s2.1 q4.1).1
        have lt : Flo.W s < Flo.W 4598175219545276416 := by
          rw [s2.2, q4.2, pw_m10]
          have h9 : (((i.natAbs : Int) + (j.natAbs : Int) : Int) : Rat) < ((256 : Int) : Rat) := Rat.intCast_lt_intCast.2 (by omega)
          rw [show ((256 : Int) : Rat) = 256 from rfl] at h9
          grind
        have := o.2 lt
        rw [es, show FloatKind.f64.format = Ieee.double from rfl, this] at hs
        exact absurd hs (by decide)
      · exact g
    obtain ⟨a, a1, a2⟩ := Flo.dy_mul t1 t1 (by have : (i * i).natAbs ≤ 524176 := by omega
                                               omega) (by omega) (by omega)
    obtain ⟨b, b1, b2⟩ := Flo.dy_mul t2 t2 (by have : (j * j).natAbs ≤ 524176 := by omega
                                               omega) (by omega) (by omega)
    rw [show (-10 : Int) + -10 = -20 from rfl] at a2 b2
    obtain ⟨c, c1, c2⟩ := Flo.dy_add a2 b2 (by omega) (by omega) (by omega)
    have hsum : (65536 : Int) / 2 ≤ i * i + j * j := by
      have e1 := Int.natAbs_mul_self' i
      have e2 := Int.natAbs_mul_self' j
      have e3 : ((i.natAbs : Int) - j.natAbs) * ((i.natAbs : Int) - j.natAbs) ≥ 0 := by
        rw [← Int.natAbs_mul_self' ((i.natAbs : Int) - j.natAbs)]; exact Int.mul_nonneg (by omega) (by omega)
      have e4 : (256 : Int) * 256 ≤ ((i.natAbs : Int) + j.natAbs) * ((i.natAbs : Int) + j.natAbs) := Int.mul_le_mul (by omega) (by omega) (by omega) (by omega)
      have e5 : ((i.natAbs : Int) + j.natAbs) * ((i.natAbs : Int) + j.natAbs) + ((i.natAbs : Int) - j.natAbs) * ((i.natAbs : Int) - j.natAbs) = 2 * (i * i) + 2 * (j * j) := by rw [← e1, ← e2]; grind
      omega
    have hn : nz (tenB i, tenB j) = ((i * i + j * j : Int) : Rat) / 1048576 := by
      unfold nz
      show Flo.W (tenB i) * Flo.W (tenB i) + Flo.W (tenB j) * Flo.W (tenB j) = _
      rw [t1.2, t2.2, pw_m10]
      push_cast
      grind
    have r1 : (32768 : Rat) ≤ ((i * i + j * j : Int) : Rat) := by
      have h9 : (((32768 : Int)) : Rat) ≤ ((i * i + j * j : Int) : Rat) := Rat.intCast_le_intCast.2 (by omega)
      exact h9
    have r2 : ((i * i + j * j : Int) : Rat) ≤ 1048352 := by
      have h9 : ((i * i + j * j : Int) : Rat) ≤ (((1048352 : Int)) : Rat) := Rat.intCast_le_intCast.2 (by omega)
      exact h9
    refine ⟨⟨t1.1, t2.1, tenB_lt i (by omega), tenB_lt j (by omega)⟩, by rw [hn]; grind, by rw [hn]; grind, a, b, c, a1, b1, c1, ?_⟩
    have o := (Flo.order_num Ieee.double c 4607182418800017408 c2.1 num_one.1).2.2
    have hc : ¬ Flo.W 4607182418800017408 < Flo.W c := by
      rw [num_one.2, c2.2, pw_m20]
      grind
    rw [show FloatKind.f64.format = Ieee.double from rfl]
    cases hh : (Ieee.double.order c 4607182418800017408 == some .gt) with
    | false => rfl
    | true => exact absurd (o.1 (by simpa using hh)) hc
  · obtain ⟨n1, n2, w1, w2⟩ := num_pole
    have hn : nz (4603579539098121011, 13828753015803845018) = 5404319552844595 / 9007199254740992 * (5404319552844595 / 9007199254740992) + 7205759403792794 / 9007199254740992 * (7205759403792794 / 9007199254740992) := by
      unfold nz
      show Flo.W 4603579539098121011 * Flo.W 4603579539098121011 + Flo.W 13828753015803845018 * Flo.W 13828753015803845018 = _
      rw [w1, w2]
      grind
    refine ⟨⟨n1, n2, by decide, by decide⟩, by rw [hn]; grind, by rw [hn]; grind, 4600156803381319434, 4603939827068310652, 4607182418800017408, by kernel_rfl, by kernel_rfl, by kernel_rfl, by kernel_rfl⟩

/-! ### the start -/
theorem start_fair (m : Int × Int) (z : Nat × Nat) (h : DyC (-4) m z) (hz : Wz z) (hm : Small2 m 64) (h0 : m ≠ (0, 0)) : Okz z ∧ 1 / 256 ≤ nz z ∧ nz z ≤ 32 ∧ Flo.Ab (Flo.W z.1) 4 ∧ Flo.Ab (Flo.W z.2) 4 := by
  obtain ⟨⟨n1, w1⟩, ⟨n2, w2⟩⟩ := h
  obtain ⟨m1, m2⟩ := hm
  have a1 : Flo.Ab (Flo.W z.1) 4 := by
    rw [w1, pw_m4]
    have g1 : (m.1 : Rat) ≤ 64 := (Rat.intCast_le_intCast.2 (show m.1 ≤ 64 by omega) : (m.1 : Rat) ≤ ((64 : Int) : Rat))
    have g2 : (-64 : Rat) ≤ (m.1 : Rat) := (Rat.intCast_le_intCast.2 (show -64 ≤ m.1 by omega) : ((-64 : Int) : Rat) ≤ (m.1 : Rat))
    exact ⟨by grind, by grind⟩
  have a2 : Flo.Ab (Flo.W z.2) 4 := by
    rw [w2, pw_m4]
    have g1 : (m.2 : Rat) ≤ 64 := (Rat.intCast_le_intCast.2 (show m.2 ≤ 64 by omega) : (m.2 : Rat) ≤ ((64 : Int) : Rat))
    have g2 : (-64 : Rat) ≤ (m.2 : Rat) := (Rat.intCast_le_intCast.2 (show -64 ≤ m.2 by omega) : ((-64 : Int) : Rat) ≤ (m.2 : Rat))
    exact ⟨by grind, by grind⟩
  have hn : nz z = ((m.1 * m.1 + m.2 * m.2 : Int) : Rat) / 256 := by
    unfold nz
    rw [w1, w2, pw_m4]
    push_cast
    grind
  have q1 := sq_of_ab a1
  have q2 := sq_of_ab a2
  have one : (1 : Int) ≤ m.1 * m.1 + m.2 * m.2 := by
    have e1 := Int.natAbs_mul_self' m.1
    have e2 := Int.natAbs_mul_self' m.2
    have p1 : 0 ≤ (m.1.natAbs : Int) * (m.1.natAbs : Int) := Int.mul_nonneg (by omega) (by omega)
    have p2 : 0 ≤ (m.2.natAbs : Int) * (m.2.natAbs : Int) := Int.mul_nonneg (by omega) (by omega)
    by_cases k1 : m.1 = 0
    · have k2 : m.2 ≠ 0 := fun k2 => h0 (Prod.ext k1 k2)
      have : (1 : Int) * 1 ≤ (m.2.natAbs : Int) * (m.2.natAbs : Int) := Int.mul_le_mul (by omega) (by omega) (by omega) (by omega)
      omega
    · have : (1 : Int) * 1 ≤ (m.1.natAbs : Int) * (m.1.natAbs : Int) := Int.mul_le_mul (by omega) (by omega) (by omega) (by omega)
      omega
  have one' : (1 : Rat) ≤ ((m.1 * m.1 + m.2 * m.2 : Int) : Rat) := by exact_mod_cast one
  refine ⟨⟨n1, n2, hz⟩, by rw [hn]; grind, ?_, a1, a2⟩
  unfold nz
  grind
theorem fair_of {x y : Nat} {m : Int × Int} {z : Nat × Nat} (hp : PoleB x y) (h : DyC (-4) m z) (hz : Wz z) (hm : Small2 m 64) (h0 : m ≠ (0, 0)) : Fair (x, y) z := by
  obtain ⟨p1, p2, p3, -⟩ := pole_fair x y hp
  obtain ⟨s1, s2, s3, -⟩ := start_fair m z h hz hm h0
  have e2 : Flo.pw (-12) = 1 / 4096 := by
    have a := Flo.pw_neg_mul 12
    rw [show Flo.pw 12 = 4096 from Flo.pw_nat 12] at a
    grind
  have e3 : Flo.pw 24 = 16777216 := Flo.pw_nat 24
  exact ⟨p1, s1, by grind, p3, by rw [e2]; grind, by rw [e3]; grind⟩

/-! ### the program's own test of nearness -/
theorem nearDouble_ok (a b c d j : Nat) (B : Rat) (hj : j ≤ 900) (ha : Flo.Nm a) (hb : Flo.Nm b) (hc : Flo.Nm c) (hd : Flo.Nm d) (h1 : Flo.Ab (Flo.W a - Flo.W c) B) (h2 : Flo.Ab (Flo.W b - Flo.W d) B) (hu : Flo.u ≤ B) (hB1 : B ≤ 1) (hB : 2 * B + B / 1024 ≤ Flo.pw (-(j : Int))) (w : World) :
    Calls Try.prog 35 #[.complex .f64 a b, .complex .f64 c d, .float .f64 (powB j)] w fun e w' => e = .returned (.bool true) ∧ ∃ n, w' = w.drewN n := by
  have hbig : (1 : Rat) < Flo.pw 1023 := by rw [← Flo.pw_zero]; exact Flo.pw_lt (by omega)
  obtain ⟨r, r1, r2, -⟩ := Flo.d_sub a c ha hc B h1 (by grind)
  obtain ⟨s, s1, s2, -⟩ := Flo.d_sub b d hb hd B h2 (by grind)
  have fr1 : ∀ w, fres w .sub .f64 a c = r := fun w => by unfold fres; rw [r1]
  have fr2 : ∀ w, fres w .sub .f64 b d = s := fun w => by unfold fres; rw [s1]
  have d1 : fdr .sub .f64 a c = 0 := by unfold fdr; rw [r1]; rfl
  have d2 : fdr .sub .f64 b d = 0 := by unfold fdr; rw [s1]; rfl
  have lr := floatBits_wf' r1
  have ls := floatBits_wf' s1
  have T := Lib.hid (fun w3 => near_gen a b c d j B hj ha hb hc hd h1 h2 hu hB1 hB w w w3)
  have hT := T.out
  rw [fr1, fr2, ← labs_mod r lr r2, ← labs_mod s ls s2] at hT
  have HT := Lib.hid hT
  clear hT r2 s2 h1 h2 hB hu hB1 ha hb hc hd hbig
  go_enter Try.func35, Try.ntmps35
  go_wp2_with (go_at_call 74; refine (implSize_any _ _ _ lr ls).mono ?_; rintro e w' ⟨rfl, n, rfl⟩)
  rw [HT.out]
  go_ret
  exact ⟨rfl, _, rfl⟩

end Go.Proofs.Ytlhhcchncobmhaa
