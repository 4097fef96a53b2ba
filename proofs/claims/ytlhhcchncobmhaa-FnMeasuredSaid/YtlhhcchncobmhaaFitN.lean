/- Plain: the quotient of numbers where the dividend is near a multiple of the divisor.
   Conditions: those that each statement names. -/
import Derived.Test.YtlhhcchncobmhaaPair
namespace Go.Proofs.Ytlhhcchncobmhaa
set_option linter.unusedSimpArgs false
set_option linter.unusedVariables false
open Go Go.RowKit

theorem ra_of_ab {x C : Rat} (h : x = C ∨ x = -C) (hC : 0 ≤ C) : ra x = C := by
  unfold ra
  rcases h with h | h
  · rw [if_neg (by grind)]; exact h
  · split <;> grind
theorem ra_eq_or {x C : Rat} (h : ra x = C) : x = C ∨ x = -C := by
  rw [← h]; exact ra_or x

/-- a quotient, near what the dividend is of the divisor; C the greater part of the divisor -/
theorem quo_rel (N D : Nat × Nat) (n1 : Flo.Nm N.1) (n2 : Flo.Nm N.2) (m1 : Flo.Nm D.1) (m2 : Flo.Nm D.2) (q1 q2 C d : Rat) (hC : 0 < C) (hcd : (Flo.W D.1 = C ∨ Flo.W D.1 = -C) ∨ (Flo.W D.2 = C ∨ Flo.W D.2 = -C)) (hc : Flo.Ab (Flo.W D.1) C) (hd : Flo.Ab (Flo.W D.2) C)
    (hlo : Flo.pw (-500) ≤ C) (hhi : C ≤ Flo.pw 500) (t1 : Flo.Ab q1 2) (t2 : Flo.Ab q2 2) (d0 : 0 ≤ d) (d1 : d ≤ 1) (h1 : Flo.Ab (Flo.W N.1 - (Flo.W D.1 * q1 - Flo.W D.2 * q2)) (d * C)) (h2 : Flo.Ab (Flo.W N.2 - (Flo.W D.1 * q2 + Flo.W D.2 * q1)) (d * C)) :
    ∃ e f, divD N.1 N.2 D.1 D.2 = some (e, f) ∧ Flo.Nm e ∧ Flo.Nm f ∧ Flo.Ab (Flo.W e - q1) (1240 * Flo.u + 2 * d) ∧ Flo.Ab (Flo.W f - q2) (1240 * Flo.u + 2 * d) := by
  have u0 := Flo.u_pos
  have u1 := Flo.u_le
  have hdC : d * C ≤ C := by have := Rat.mul_le_mul_of_nonneg_right d1 (Rat.le_of_lt hC); grind
  have p4 : (8 : Rat) * 5 < Flo.pw 1022 := by
    have e1 : Flo.pw 6 < Flo.pw 1022 := Flo.pw_lt (by omega)
    rw [show Flo.pw 6 = 64 from Flo.pw_nat 6] at e1
    grind
  have p5 : Flo.pw 1022 < Flo.pw 1023 := Flo.pw_lt (by omega)
  have p6 : Flo.et ≤ Flo.u * 5 := by
    have : Flo.et ≤ Flo.u := Flo.pw_le (by omega)
    grind
  have p7 : 64 * Flo.pw 500 < Flo.pw 1022 := by
    have e1 : Flo.pw 506 = 64 * Flo.pw 500 := by rw [show (506 : Int) = 6 + 500 from rfl, Flo.pw_add, show Flo.pw 6 = 64 from Flo.pw_nat 6]
    have e2 : Flo.pw 506 < Flo.pw 1022 := Flo.pw_lt (by omega)
    grind
  have k3 : Flo.et ≤ Flo.u * C := by
    have h9 : Flo.et ≤ Flo.u * Flo.pw (-500) := by
      rw [show Flo.u = Flo.pw (-53) from rfl, ← Flo.pw_add]
      exact Flo.pw_le (by omega)
    have h10 := Rat.mul_le_mul_of_nonneg_left hlo (Rat.le_of_lt u0)
    grind
  have k4 := Rat.mul_nonneg (Rat.le_of_lt u0) (Rat.le_of_lt hC)
  have b1 : Flo.Ab (Flo.W N.1) (5 * C) := ((h1.add ((hc.mul t1).sub (hd.mul t2))).eq (show _ = Flo.W N.1 by grind)).mono (by grind)
  have b2 : Flo.Ab (Flo.W N.2) (5 * C) := ((h2.add ((hc.mul t2).add (hd.mul t1))).eq (show _ = Flo.W N.2 by grind)).mono (by grind)
  have hsum : 0 < ra (Flo.W D.1) + ra (Flo.W D.2) := by
    have r1 := ra_nonneg (Flo.W D.1)
    have r2 := ra_nonneg (Flo.W D.2)
    rcases hcd with h | h
    · have := ra_of_ab h (Rat.le_of_lt hC); grind
    · have := ra_of_ab h (Rat.le_of_lt hC); grind
  have fin_ : ∀ e f, Flo.Ab (Flo.W e * Flo.W D.1 - Flo.W f * Flo.W D.2 - Flo.W N.1) (124 * (Flo.u * (5 * C))) → Flo.Ab (Flo.W e * Flo.W D.2 + Flo.W f * Flo.W D.1 - Flo.W N.2) (124 * (Flo.u * (5 * C))) →
      Flo.Ab (Flo.W e - q1) (1240 * Flo.u + 2 * d) ∧ Flo.Ab (Flo.W f - q2) (1240 * Flo.u + 2 * d) := by
    intro e f g1 g2
    have r := quo_rest (Flo.W e - q1) (Flo.W f - q2) (Flo.W D.1) (Flo.W D.2) (Flo.W e * Flo.W D.1 - Flo.W f * Flo.W D.2 - Flo.W N.1 + (Flo.W N.1 - (Flo.W D.1 * q1 - Flo.W D.2 * q2))) (Flo.W e * Flo.W D.2 + Flo.W f * Flo.W D.1 - Flo.W N.2 + (Flo.W N.2 - (Flo.W D.1 * q2 + Flo.W D.2 * q1))) C (620 * Flo.u + d) hC hcd hc hd (by grind) (by grind) ((g1.add h1).mono (by grind)) ((g2.add h2).mono (by grind))
    exact ⟨r.1.mono (by grind), r.2.mono (by grind)⟩
  cases hge : absGe D.1 D.2 with
  | true =>
    have hle := (absGe_iff D.1 D.2 m1 m2).1 hge
    have hC1 : Flo.W D.1 = C ∨ Flo.W D.1 = -C := by
      rcases hcd with h | h
      · exact h
      · apply ra_eq_or
        have r1 := ra_of_ab h (Rat.le_of_lt hC)
        have r2 := ra_le hc
        grind
    obtain ⟨e, f, v1, v2, v3, -, -, v4, v5⟩ := Flo.quo_ge N.1 N.2 D.1 D.2 n1 n2 m1 m2 (5 * C) 5 C hC1 hC (by grind) hd b1 b2 (by grind) rfl p4 k3 (by clear fin_; grind) p6 hge
    obtain ⟨g1, g2⟩ := fin_ e f v4 v5
    exact ⟨e, f, divD_of_main _ _ _ _ _ _ n1 n2 m1 m2 v2 v3 hsum v1, v2, v3, g1, g2⟩
  | false =>
    have hlt : ra (Flo.W D.1) ≤ ra (Flo.W D.2) := by
      have : ¬ ra (Flo.W D.2) ≤ ra (Flo.W D.1) := fun g => by rw [(absGe_iff D.1 D.2 m1 m2).2 g] at hge; cases hge
      grind
    have hC2 : Flo.W D.2 = C ∨ Flo.W D.2 = -C := by
      rcases hcd with h | h
      · apply ra_eq_or
        have r1 := ra_of_ab h (Rat.le_of_lt hC)
        have r2 := ra_le hd
        grind
      · exact h
    obtain ⟨e, f, v1, v2, v3, -, -, v4, v5⟩ := Flo.quo_lt N.1 N.2 D.1 D.2 n1 n2 m1 m2 (5 * C) 5 C hC2 hC (by grind) hc b1 b2 (by grind) rfl p4 k3 (by clear fin_; grind) p6 hge
    obtain ⟨g1, g2⟩ := fin_ e f v4 v5
    exact ⟨e, f, divD_of_main _ _ _ _ _ _ n1 n2 m1 m2 v2 v3 hsum v1, v2, v3, g1, g2⟩

/-- a quotient, near what the dividend is of the divisor; C the greater part of the divisor -/
theorem quo_gen (N D : Nat × Nat) (n1 : Flo.Nm N.1) (n2 : Flo.Nm N.2) (m1 : Flo.Nm D.1) (m2 : Flo.Nm D.2) (q1 q2 C d Q T : Rat) (hQ : 1 ≤ Q) (hT : T = 2 * Q + 1) (hT9 : T ≤ 9) (hC : 0 < C) (hcd : (Flo.W D.1 = C ∨ Flo.W D.1 = -C) ∨ (Flo.W D.2 = C ∨ Flo.W D.2 = -C)) (hc : Flo.Ab (Flo.W D.1) C) (hd : Flo.Ab (Flo.W D.2) C)
    (hlo : Flo.pw (-500) ≤ C) (hhi : C ≤ Flo.pw 500) (t1 : Flo.Ab q1 Q) (t2 : Flo.Ab q2 Q) (d0 : 0 ≤ d) (d1 : d ≤ 1) (h1 : Flo.Ab (Flo.W N.1 - (Flo.W D.1 * q1 - Flo.W D.2 * q2)) (d * C)) (h2 : Flo.Ab (Flo.W N.2 - (Flo.W D.1 * q2 + Flo.W D.2 * q1)) (d * C)) :
    ∃ e f, divD N.1 N.2 D.1 D.2 = some (e, f) ∧ Flo.Nm e ∧ Flo.Nm f ∧ Flo.Ab (Flo.W e - q1) (248 * (Flo.u * T) + 2 * d) ∧ Flo.Ab (Flo.W f - q2) (248 * (Flo.u * T) + 2 * d) := by
  have u0 := Flo.u_pos
  have u1 := Flo.u_le
  have hdC : d * C ≤ C := by have := Rat.mul_le_mul_of_nonneg_right d1 (Rat.le_of_lt hC); grind
  have p4 : (8 : Rat) * T < Flo.pw 1022 := by
    have e1 : Flo.pw 7 < Flo.pw 1022 := Flo.pw_lt (by omega)
    rw [show Flo.pw 7 = 128 from Flo.pw_nat 7] at e1
    grind
  have p5 : Flo.pw 1022 < Flo.pw 1023 := Flo.pw_lt (by omega)
  have p6 : Flo.et ≤ Flo.u * T := by
    have : Flo.et ≤ Flo.u := Flo.pw_le (by omega)
    have := Rat.mul_le_mul_of_nonneg_left (show (1 : Rat) ≤ T by grind) (Rat.le_of_lt u0)
    grind
  have p7 : 128 * Flo.pw 500 < Flo.pw 1022 := by
    have e1 : Flo.pw 507 = 128 * Flo.pw 500 := by rw [show (507 : Int) = 7 + 500 from rfl, Flo.pw_add, show Flo.pw 7 = 128 from Flo.pw_nat 7]
    have e2 : Flo.pw 507 < Flo.pw 1022 := Flo.pw_lt (by omega)
    grind
  have k3 : Flo.et ≤ Flo.u * C := by
    have h9 : Flo.et ≤ Flo.u * Flo.pw (-500) := by
      rw [show Flo.u = Flo.pw (-53) from rfl, ← Flo.pw_add]
      exact Flo.pw_le (by omega)
    have h10 := Rat.mul_le_mul_of_nonneg_left hlo (Rat.le_of_lt u0)
    grind
  have k4 := Rat.mul_nonneg (Rat.le_of_lt u0) (Rat.le_of_lt hC)
  have hTC : T * C = 2 * (Q * C) + C := by rw [hT]; grind
  have hTC9 : T * C ≤ 9 * C := Rat.mul_le_mul_of_nonneg_right hT9 (Rat.le_of_lt hC)
  have hCT : C ≤ T * C := by have := Rat.mul_le_mul_of_nonneg_right (show (1:Rat) ≤ T by grind) (Rat.le_of_lt hC); grind
  have huTC : Flo.u * C ≤ Flo.u * (T * C) := Rat.mul_le_mul_of_nonneg_left hCT (Rat.le_of_lt u0)
  have b1 : Flo.Ab (Flo.W N.1) (T * C) := ((h1.add ((hc.mul t1).sub (hd.mul t2))).eq (show _ = Flo.W N.1 by grind)).mono (by grind)
  have b2 : Flo.Ab (Flo.W N.2) (T * C) := ((h2.add ((hc.mul t2).add (hd.mul t1))).eq (show _ = Flo.W N.2 by grind)).mono (by grind)
  have hsum : 0 < ra (Flo.W D.1) + ra (Flo.W D.2) := by
    have r1 := ra_nonneg (Flo.W D.1)
    have r2 := ra_nonneg (Flo.W D.2)
    rcases hcd with h | h
    · have := ra_of_ab h (Rat.le_of_lt hC); grind
    · have := ra_of_ab h (Rat.le_of_lt hC); grind
  have fin_ : ∀ e f, Flo.Ab (Flo.W e * Flo.W D.1 - Flo.W f * Flo.W D.2 - Flo.W N.1) (124 * (Flo.u * (T * C))) → Flo.Ab (Flo.W e * Flo.W D.2 + Flo.W f * Flo.W D.1 - Flo.W N.2) (124 * (Flo.u * (T * C))) →
      Flo.Ab (Flo.W e - q1) (248 * (Flo.u * T) + 2 * d) ∧ Flo.Ab (Flo.W f - q2) (248 * (Flo.u * T) + 2 * d) := by
    intro e f g1 g2
    have r := quo_rest (Flo.W e - q1) (Flo.W f - q2) (Flo.W D.1) (Flo.W D.2) (Flo.W e * Flo.W D.1 - Flo.W f * Flo.W D.2 - Flo.W N.1 + (Flo.W N.1 - (Flo.W D.1 * q1 - Flo.W D.2 * q2))) (Flo.W e * Flo.W D.2 + Flo.W f * Flo.W D.1 - Flo.W N.2 + (Flo.W N.2 - (Flo.W D.1 * q2 + Flo.W D.2 * q1))) C (124 * (Flo.u * T) + d) hC hcd hc hd (by grind) (by grind) ((g1.add h1).mono (by grind)) ((g2.add h2).mono (by grind))
    exact ⟨r.1.mono (by grind), r.2.mono (by grind)⟩
  cases hge : absGe D.1 D.2 with
  | true =>
    have hle := (absGe_iff D.1 D.2 m1 m2).1 hge
    have hC1 : Flo.W D.1 = C ∨ Flo.W D.1 = -C := by
      rcases hcd with h | h
      · exact h
      · apply ra_eq_or
        have r1 := ra_of_ab h (Rat.le_of_lt hC)
        have r2 := ra_le hc
        grind
    obtain ⟨e, f, v1, v2, v3, -, -, v4, v5⟩ := Flo.quo_ge N.1 N.2 D.1 D.2 n1 n2 m1 m2 (T * C) T C hC1 hC (by grind) hd b1 b2 (by grind) rfl p4 k3 (by clear fin_; grind) p6 hge
    obtain ⟨g1, g2⟩ := fin_ e f v4 v5
    exact ⟨e, f, divD_of_main _ _ _ _ _ _ n1 n2 m1 m2 v2 v3 hsum v1, v2, v3, g1, g2⟩
  | false =>
    have hlt : ra (Flo.W D.1) ≤ ra (Flo.W D.2) := by
      have : ¬ ra (Flo.W D.2) ≤ ra (Flo.W D.1) := fun g => by rw [(absGe_iff D.1 D.2 m1 m2).2 g] at hge; cases hge
      grind
    have hC2 : Flo.W D.2 = C ∨ Flo.W D.2 = -C := by
      rcases hcd with h | h
      · apply ra_eq_or
        have r1 := ra_of_ab h (Rat.le_of_lt hC)
        have r2 := ra_le hd
        grind
      · exact h
    obtain ⟨e, f, v1, v2, v3, -, -, v4, v5⟩ := Flo.quo_lt N.1 N.2 D.1 D.2 n1 n2 m1 m2 (T * C) T C hC2 hC (by grind) hc b1 b2 (by grind) rfl p4 k3 (by clear fin_; grind) p6 hge
    obtain ⟨g1, g2⟩ := fin_ e f v4 v5
    exact ⟨e, f, divD_of_main _ _ _ _ _ _ n1 n2 m1 m2 v2 v3 hsum v1, v2, v3, g1, g2⟩

/-! ### one product -/
/-- a product of numbers of double precision whose parts are at most M and 1 -/
theorem mul_box (x y : Nat × Nat) (a1 : Flo.Nm x.1) (a2 : Flo.Nm x.2) (b1 : Flo.Nm y.1) (b2 : Flo.Nm y.2) (M K : Rat) (hM : Flo.pw (-500) ≤ M * K) (hM2 : M * K ≤ Flo.pw 500) (x1 : Flo.Ab (Flo.W x.1) M) (x2 : Flo.Ab (Flo.W x.2) M) (y1 : Flo.Ab (Flo.W y.1) K) (y2 : Flo.Ab (Flo.W y.2) K) :
    ∃ z : Nat × Nat, mulC (fabC x) (fabC y) = (some z.1, some z.2) ∧ Flo.Nm z.1 ∧ Flo.Nm z.2 ∧ Wz z ∧ Flo.Ab (Flo.W z.1 - (Flo.W x.1 * Flo.W y.1 - Flo.W x.2 * Flo.W y.2)) (5 * (Flo.u * (M * K))) ∧ Flo.Ab (Flo.W z.2 - (Flo.W x.1 * Flo.W y.2 + Flo.W x.2 * Flo.W y.1)) (5 * (Flo.u * (M * K))) := by
  have u0 := Flo.u_pos
  have u1 := Flo.u_le
  have p0 := Flo.pw_pos (-500)
  have hMK : 0 ≤ M * K := by grind
  generalize hB : M * K = B at *
  have p7 : 8 * Flo.pw 500 < Flo.pw 1023 := by
    have e1 : Flo.pw 503 = 8 * Flo.pw 500 := by rw [show (503 : Int) = 3 + 500 from rfl, Flo.pw_add, show Flo.pw 3 = 8 from Flo.pw_nat 3]
    have e2 : Flo.pw 503 < Flo.pw 1023 := Flo.pw_lt (by omega)
    grind
  have het : Flo.et ≤ Flo.u * (Flo.u * B) := by
    have h9 : Flo.et ≤ Flo.u * (Flo.u * Flo.pw (-500)) := by
      rw [show Flo.u = Flo.pw (-53) from rfl, ← Flo.pw_add, ← Flo.pw_add]
      exact Flo.pw_le (by omega)
    have h10 := Rat.mul_le_mul_of_nonneg_left hM (Rat.le_of_lt u0)
    have h11 := Rat.mul_le_mul_of_nonneg_left h10 (Rat.le_of_lt u0)
    grind
  have huB := Rat.mul_nonneg (Rat.le_of_lt u0) hMK
  have huB1 : Flo.u * B ≤ B / 1048576 := by have := Rat.mul_le_mul_of_nonneg_right u1 hMK; grind
  have huuB : Flo.u * (Flo.u * B) ≤ (Flo.u * B) / 1048576 := by have := Rat.mul_le_mul_of_nonneg_right u1 huB; grind
  obtain ⟨r1, g1, g2, g3⟩ := Flo.d_mul x.1 y.1 a1 b1 B (by have := x1.mul y1; rwa [hB] at this) (by grind)
  obtain ⟨r2, i1, i2, i3⟩ := Flo.d_mul x.2 y.2 a2 b2 B (by have := x2.mul y2; rwa [hB] at this) (by grind)
  obtain ⟨r3, j1, j2, j3⟩ := Flo.d_mul x.1 y.2 a1 b2 B (by have := x1.mul y2; rwa [hB] at this) (by grind)
  obtain ⟨r4, l1, l2, l3⟩ := Flo.d_mul x.2 y.1 a2 b1 B (by have := x2.mul y1; rwa [hB] at this) (by grind)
  have q1 := x1.mul y1
  have q2 := x2.mul y2
  have q3 := x1.mul y2
  have q4 := x2.mul y1
  rw [hB] at q1 q2 q3 q4
  have B1 : Flo.Ab (Flo.W r1) (2 * B) := ((g3.add q1).eq (show _ = Flo.W r1 by grind)).mono (by grind)
  have B2 : Flo.Ab (Flo.W r2) (2 * B) := ((i3.add q2).eq (show _ = Flo.W r2 by grind)).mono (by grind)
  have B3 : Flo.Ab (Flo.W r3) (2 * B) := ((j3.add q3).eq (show _ = Flo.W r3 by grind)).mono (by grind)
  have B4 : Flo.Ab (Flo.W r4) (2 * B) := ((l3.add q4).eq (show _ = Flo.W r4 by grind)).mono (by grind)
  have C1 : Flo.Ab (Flo.W r1 - Flo.W r2) (5 / 2 * B) := ((g3.sub i3).add (q1.sub q2)).eq (show _ = Flo.W r1 - Flo.W r2 by grind) |>.mono (by grind)
  have C2 : Flo.Ab (Flo.W r3 + Flo.W r4) (5 / 2 * B) := ((j3.add l3).add (q3.add q4)).eq (show _ = Flo.W r3 + Flo.W r4 by grind) |>.mono (by grind)
  obtain ⟨z1, s1, s2, s3⟩ := Flo.d_sub r1 r2 g2 i2 (5 / 2 * B) C1 (by grind)
  obtain ⟨z2, t1, t2, t3⟩ := Flo.d_add r3 r4 j2 l2 (5 / 2 * B) C2 (by grind)
  refine ⟨(z1, z2), ?_, s2, t2, ⟨floatBits_wf' s1, floatBits_wf' t1⟩, ?_, ?_⟩
  · unfold fabC
    rw [fab_num a1, fab_num a2, fab_num b1, fab_num b2]
    unfold mulC mulRe mulIm
    simp only [fA_some, g1, i1, j1, l1, s1, t1]
  · exact ((s3.add (g3.sub i3)).eq (show _ = Flo.W z1 - (Flo.W x.1 * Flo.W y.1 - Flo.W x.2 * Flo.W y.2) by grind)).mono (by grind)
  · exact ((t3.add (j3.add l3)).eq (show _ = Flo.W z2 - (Flo.W x.1 * Flo.W y.2 + Flo.W x.2 * Flo.W y.1) by grind)).mono (by grind)

end Go.Proofs.Ytlhhcchncobmhaa
