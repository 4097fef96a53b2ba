/- Plain facts: a number of moderate size, divided by its size, has a size near 1, and multiplied by its size it is near itself.
   Conditions: those that each statement names. No program stands in it. -/
import Derived.Test.YtlhhcchncobmhaaQuo
import Derived.Test.YtlhhcchncobmhaaInj
namespace Go.Proofs.Ytlhhcchncobmhaa
set_option linter.unusedSimpArgs false
set_option linter.unusedVariables false
open Go

/-- the law's own test, where what is left is at most 340 units of 'u S' -/
theorem small_of (a b p q k d1 d2 s : Nat) (w1 w2 w3 w4 : World) (h1 : Moderate a b) (i1 : floatBits .sub .f64 p a = some d1) (j1 : floatBits .sub .f64 q b = some d2) (r1 : floatBits .add .f64 (labs d1) (labs d2) = some s) (r2 : Flo.Nm s)
    (hhigh : Flo.W s ≤ 340 * (Flo.u * (Flo.W (labs a) + Flo.W (labs b)))) (hk : Flo.Nm k) (hk44 : Flo.W k = Flo.pw (-((44 : Nat) : Int))) :
    (FloatKind.f64.format.order (fres w3 .add .f64 (labs (fres w1 .sub .f64 p a)) (labs (fres w2 .sub .f64 q b))) (fres w4 .mul .f64 (szd a b) k) == some .lt ||
      FloatKind.f64.format.order (fres w3 .add .f64 (labs (fres w1 .sub .f64 p a)) (labs (fres w2 .sub .f64 q b))) (fres w4 .mul .f64 (szd a b) k) == some .eq) = true := by
  obtain ⟨ax, bx, fa, fb, s1, s2, nla, nlb⟩ := h1
  have na := Nm_of_fin fa
  have nb := Nm_of_fin fb
  have u0 := Flo.u_pos
  have u1 := Flo.u_le
  have p201 := Flo.pw_pos (-201)
  generalize hS : Flo.W (labs a) + Flo.W (labs b) = S at *
  have hS0 : 0 ≤ S := by grind
  have huS0 := Rat.mul_nonneg (Rat.le_of_lt u0) hS0
  have huS : Flo.u * S ≤ S / 1048576 := by
    have := Rat.mul_le_mul_of_nonneg_right u1 hS0; grind
  have huuS : Flo.u * (Flo.u * S) ≤ (Flo.u * S) / 1048576 := by
    have := Rat.mul_le_mul_of_nonneg_right u1 huS0; grind
  have het : Flo.et ≤ Flo.u * (Flo.u * S) := by
    have k1 := Rat.mul_le_mul_of_nonneg_left s1 (Rat.le_of_lt u0)
    have k3 := Rat.mul_le_mul_of_nonneg_left k1 (Rat.le_of_lt u0)
    rw [show Flo.u = Flo.pw (-53) from rfl, ← Flo.pw_add, ← Flo.pw_add] at k3
    have k2 : Flo.pw (-1074) ≤ Flo.pw (-53 + (-53 + -201)) := Flo.pw_le (by omega)
    unfold Flo.et; rw [show Flo.u = Flo.pw (-53) from rfl]; grind
  have hbig : 32 * Flo.pw 201 < Flo.pw 1023 := by
    have e1 : Flo.pw 206 = 32 * Flo.pw 201 := by rw [show (206 : Int) = 5 + 201 from rfl, Flo.pw_add, show Flo.pw 5 = 32 from Flo.pw_nat 5]
    have e2 : Flo.pw 206 < Flo.pw 1023 := Flo.pw_lt (by omega)
    grind
  have et0 := Flo.et_pos
  -- the bound
  have hsz := szd_eq a b ax bx na nb
  obtain ⟨sz, o1, o2, o3⟩ := Flo.d_add (labs a) (labs b) nla nlb S ⟨by rw [hS]; grind, by rw [hS]; exact Rat.le_refl⟩ (by grind)
  rw [hsz] at o1
  simp only [Option.some.injEq] at o1
  rw [o1] at *
  rw [hS] at o3
  have e44 : Flo.W k = 512 * Flo.u := by
    rw [hk44, show (-((44 : Nat) : Int)) = 9 + -53 from rfl, Flo.pw_add, show Flo.pw 9 = 512 from Flo.pw_nat 9]; rfl
  have hkA : Flo.Ab (Flo.W k) (512 * Flo.u) := by rw [e44]; unfold Flo.Ab; grind
  have hszA : Flo.Ab (Flo.W sz) (2 * S) := ((o3.add (show Flo.Ab S S from ⟨by grind, by grind⟩)).eq (show Flo.W sz - S + S = Flo.W sz by grind)).mono (by grind)
  obtain ⟨k', t1, t2, t3⟩ := Flo.d_mul sz k o2 hk (2 * S * (512 * Flo.u)) (hszA.mul hkA) (by grind)
  have hlow : 500 * (Flo.u * S) ≤ Flo.W k' := by
    rw [e44] at t3
    have m1 : S - 2 * (Flo.u * S) ≤ Flo.W sz := by unfold Flo.Ab at o3; grind
    have m2 := Rat.mul_le_mul_of_nonneg_right m1 (show (0 : Rat) ≤ 512 * Flo.u by grind)
    unfold Flo.Ab at t3
    grind
  have fr1 : fres w1 .sub .f64 p a = d1 := by unfold fres; rw [i1]
  have fr2 : fres w2 .sub .f64 q b = d2 := by unfold fres; rw [j1]
  have fr3 : fres w3 .add .f64 (labs d1) (labs d2) = s := by unfold fres; rw [r1]
  have fr4 : fres w4 .mul .f64 sz k = k' := by unfold fres; rw [t1]
  rw [fr1, fr2, fr3, fr4, show FloatKind.f64.format = Ieee.double from rfl, Bool.or_eq_true, beq_iff_eq, beq_iff_eq]
  have o := Flo.order_num Ieee.double s k' r2 t2
  rw [o.1, o.2.1]
  show Flo.W s < Flo.W k' ∨ Flo.W s = Flo.W k'
  have : Flo.W s ≤ Flo.W k' := by grind
  grind


theorem labs_mod (x : Nat) (hx : x < 2 ^ 64) (h : Flo.Nm x) : x % signBit = labs x := by
  obtain ⟨s, m, p, hr⟩ := h
  have hm := mod_read x
  rw [show FloatKind.f64.decode x = _ from hr] at hm
  obtain ⟨n', j', l1, l2⟩ := labs_read hx hr
  have e : 2 * Ieee.double.signWeight = 2 ^ 64 := by decide
  have hl : labs x < 2 ^ 64 := by
    unfold labs
    split
    · unfold Op.negFloat
      exact Nat.xor_lt_two_pow hx (by decide)
    · split
      · decide
      · exact hx
  exact Flo.read_inj Ieee.double (show Ieee.double.read _ = _ from hm) l1 (by have := Nat.mod_le x signBit; omega) (by omega) l2.symm

/-- a number of moderate size by its size -/
theorem unit_quo (a b : Nat) (h : Moderate a b) : ∃ e f S, divD a b (szd a b) 0 = some (e, f) ∧ Flo.Nm e ∧ Flo.Nm f ∧ S = Flo.W (labs a) + Flo.W (labs b) ∧ S = ra (Flo.W a) + ra (Flo.W b) ∧ 0 < S ∧ S ≤ Flo.pw 201 ∧ Flo.et ≤ Flo.u * (Flo.u * S) ∧ Flo.Nm (szd a b) ∧
    Flo.Ab (Flo.W (szd a b) - S) (2 * (Flo.u * S)) ∧ Flo.Ab (Flo.W e * Flo.W (szd a b) - Flo.W a) (124 * (Flo.u * S)) ∧ Flo.Ab (Flo.W f * Flo.W (szd a b) - Flo.W b) (124 * (Flo.u * S)) ∧ Flo.Ab (Flo.W a) S ∧ Flo.Ab (Flo.W b) S := by
  obtain ⟨ax, bx, fa, fb, s1, s2, na', nb'⟩ := h
  have na := Nm_of_fin fa
  have nb := Nm_of_fin fb
  have hsz := szd_eq a b ax bx na nb
  have u0 := Flo.u_pos
  have u1 := Flo.u_le
  have et0 := Flo.et_pos
  have p201 := Flo.pw_pos (-201)
  have la := (labs_num a ax na).2
  have lb := (labs_num b bx nb).2
  have a0 := ra_nonneg (Flo.W a)
  have b0 := ra_nonneg (Flo.W b)
  have haS : Flo.Ab (Flo.W a) (Flo.W (labs a) + Flo.W (labs b)) := (ra_ab _).mono (by rw [la, lb]; grind)
  have hbS : Flo.Ab (Flo.W b) (Flo.W (labs a) + Flo.W (labs b)) := (ra_ab _).mono (by rw [la, lb]; grind)
  have hSe : Flo.W (labs a) + Flo.W (labs b) = ra (Flo.W a) + ra (Flo.W b) := by rw [la, lb]
  generalize hS : Flo.W (labs a) + Flo.W (labs b) = S at *
  have hS0 : 0 < S := by grind
  have huS0 := Rat.mul_nonneg (Rat.le_of_lt u0) (Rat.le_of_lt hS0)
  have huS : Flo.u * S ≤ S / 1048576 := by
    have := Rat.mul_le_mul_of_nonneg_right u1 (Rat.le_of_lt hS0); grind
  have huuS : Flo.u * (Flo.u * S) ≤ (Flo.u * S) / 1048576 := by
    have := Rat.mul_le_mul_of_nonneg_right u1 huS0; grind
  have het : Flo.et ≤ Flo.u * (Flo.u * S) := by
    have k1 := Rat.mul_le_mul_of_nonneg_left s1 (Rat.le_of_lt u0)
    have k3 := Rat.mul_le_mul_of_nonneg_left k1 (Rat.le_of_lt u0)
    rw [show Flo.u = Flo.pw (-53) from rfl, ← Flo.pw_add, ← Flo.pw_add] at k3
    have k2 : Flo.pw (-1074) ≤ Flo.pw (-53 + (-53 + -201)) := Flo.pw_le (by omega)
    unfold Flo.et; rw [show Flo.u = Flo.pw (-53) from rfl]; grind
  have het1 : Flo.et ≤ Flo.u / 2 := by
    have k2 : Flo.pw (-1074) ≤ Flo.pw (-54) := Flo.pw_le (by omega)
    have k3 : Flo.pw (-53) = 2 * Flo.pw (-54) := by rw [← Flo.pw_succ]; rfl
    unfold Flo.et; rw [show Flo.u = Flo.pw (-53) from rfl]; grind
  have hbig : 32 * Flo.pw 201 < Flo.pw 1022 := by
    have e1 : Flo.pw 206 = 32 * Flo.pw 201 := by rw [show (206 : Int) = 5 + 201 from rfl, Flo.pw_add, show Flo.pw 5 = 32 from Flo.pw_nat 5]
    have e2 : Flo.pw 206 < Flo.pw 1022 := Flo.pw_lt (by omega)
    grind
  have h32 : 32 < Flo.pw 1022 := by
    have e1 : Flo.pw 5 = 32 := Flo.pw_nat 5
    have e2 : Flo.pw 5 < Flo.pw 1022 := Flo.pw_lt (by omega)
    grind
  have h23 := Flo.pw_lt (a := 1022) (b := 1023) (by omega)
  obtain ⟨sz, o1, o2, o3⟩ := Flo.d_add (labs a) (labs b) na' nb' S ⟨by rw [hS]; grind, by rw [hS]; exact Rat.le_refl⟩ (by grind)
  rw [hsz] at o1
  simp only [Option.some.injEq] at o1
  rw [← o1, hS] at o3
  rw [← o1] at o2
  have o4 : Flo.Ab (Flo.W (szd a b) - S) (2 * (Flo.u * S)) := o3.mono (by grind)
  have hC : 0 < Flo.W (szd a b) := by unfold Flo.Ab at o4; grind
  have hCl : S / 2 ≤ Flo.W (szd a b) := by unfold Flo.Ab at o4; grind
  have hCh : Flo.W (szd a b) ≤ 2 * S := by unfold Flo.Ab at o4; grind
  have hT : S / Flo.W (szd a b) * Flo.W (szd a b) = S := by grind
  have hT2 : S / Flo.W (szd a b) ≤ 2 := by
    refine Rat.le_of_mul_le_mul_right (c := Flo.W (szd a b)) ?_ hC
    rw [hT]; grind
  have hT1 : 1 / 2 ≤ S / Flo.W (szd a b) := by
    refine Rat.le_of_mul_le_mul_right (c := Flo.W (szd a b)) ?_ hC
    rw [hT]; grind
  have z0 : Flo.W 0 = 0 := zero_num.2
  have hge : absGe (szd a b) 0 = true := (absGe_iff _ _ o2 zero_num.1).2 (by rw [z0]; have := ra_nonneg (Flo.W (szd a b)); unfold ra at *; grind)
  have kC := Rat.mul_le_mul_of_nonneg_left hCl (Rat.le_of_lt u0)
  have kT := Rat.mul_le_mul_of_nonneg_left hT1 (Rat.le_of_lt u0)
  obtain ⟨e, f, q1, q2, q3, q4, q5, q6, q7⟩ := Flo.quo_ge a b (szd a b) 0 na nb o2 zero_num.1 S (S / Flo.W (szd a b)) (Flo.W (szd a b)) (.inl rfl) hC (by grind) (by rw [z0]; unfold Flo.Ab; grind) haS hbS (by grind) hT (by grind) (by grind) (by grind) (by grind) hge
  rw [z0] at q6 q7
  refine ⟨e, f, S, divD_of_main a b _ 0 e f na nb o2 zero_num.1 q2 q3 ?_ q1, q2, q3, rfl, hSe, hS0, s2, het, o2, o4, q6.eq (by grind), q7.eq (by grind), haS, hbS⟩
  have := ra_nonneg (Flo.W 0)
  have : ra (Flo.W (szd a b)) = Flo.W (szd a b) := by unfold ra; rw [if_neg (by grind)]
  grind

/-- ITS SIZE IS NEAR 1 -/
theorem unit_size (a b e f : Nat) (h : Moderate a b) (hd : divD a b (szd a b) 0 = some (e, f)) (he : e < 2 ^ 64) (hf : f < 2 ^ 64) :
    ∃ d1 d2, floatBits .sub .f64 (szd e f) 4607182418800017408 = some d1 ∧ floatBits .sub .f64 4607182418800017408 (szd e f) = some d2 ∧ Flo.Nm d1 ∧ Flo.Nm d2 ∧ Flo.W d1 ≤ 300 * Flo.u ∧ Flo.W d2 ≤ 300 * Flo.u ∧ Flo.Nm e ∧ Flo.Nm f := by
  obtain ⟨e', f', S, hd', ne, nf, -, hSe, hS0, s2, het, nz, g0, g1, g2, haS, hbS⟩ := unit_quo a b h
  rw [hd] at hd'
  simp only [Option.some.injEq, Prod.mk.injEq] at hd'
  obtain ⟨rfl, rfl⟩ := hd'
  generalize Flo.W (szd a b) = C at *
  have u0 := Flo.u_pos
  have u1 := Flo.u_le
  have et0 := Flo.et_pos
  have huS0 := Rat.mul_nonneg (Rat.le_of_lt u0) (Rat.le_of_lt hS0)
  have huS : Flo.u * S ≤ S / 1048576 := by
    have := Rat.mul_le_mul_of_nonneg_right u1 (Rat.le_of_lt hS0); grind
  have huu : Flo.u * Flo.u ≤ Flo.u / 1048576 := by
    have := Rat.mul_le_mul_of_nonneg_right u1 (Rat.le_of_lt u0); grind
  have hC0 : 0 < C := by unfold Flo.Ab at g0; grind
  have hetu : Flo.et ≤ Flo.u * Flo.u := by
    have k2 : Flo.pw (-1074) ≤ Flo.pw (-53 + -53) := Flo.pw_le (by omega)
    rw [Flo.pw_add] at k2
    unfold Flo.et; rw [show Flo.u = Flo.pw (-53) from rfl]; grind
  have le := labs_num e he ne
  have lf := labs_num f hf nf
  have e0 := ra_nonneg (Flo.W e)
  have f0 := ra_nonneg (Flo.W f)
  have ram : ∀ q, ra q * C = ra (q * C) := by
    intro q
    unfold ra
    by_cases hq : q < 0
    · rw [if_pos hq, if_pos (by have := Rat.mul_pos (show 0 < -q by grind) hC0; grind)]; grind
    · rw [if_neg hq, if_neg (by have := Rat.mul_nonneg (show 0 ≤ q by grind) (Rat.le_of_lt hC0); grind)]
  have rad : ∀ x y B, Flo.Ab (x - y) B → Flo.Ab (ra x - ra y) B := by
    intro x y B hxy
    unfold Flo.Ab ra at *
    split <;> split <;> grind
  have k1 := rad _ _ _ g1
  have k2 := rad _ _ _ g2
  rw [← ram] at k1 k2
  have k3 : Flo.Ab ((ra (Flo.W e) + ra (Flo.W f) - 1) * C) (252 * Flo.u * C) := by
    have hb : 250 * (Flo.u * S) ≤ 252 * Flo.u * C := by
      unfold Flo.Ab at g0
      have := Rat.mul_le_mul_of_nonneg_left (show S - 2 * (Flo.u * S) ≤ C by grind) (show 0 ≤ 252 * Flo.u by grind)
      have k := Rat.mul_le_mul_of_nonneg_left huS (show 0 ≤ 504 * Flo.u by grind)
      grind
    exact ((((k1.add k2).add g0.neg).eq (by grind)).mono (by grind))
  have k4 := k3.div hC0 (Rat.le_refl (a := C))
  generalize hZ : ra (Flo.W e) + ra (Flo.W f) = Z at *
  have b1023 : 4 < Flo.pw 1023 := by
    have e1 : Flo.pw 2 = 4 := Flo.pw_nat 2
    have e2 : Flo.pw 2 < Flo.pw 1023 := Flo.pw_lt (by omega)
    grind
  have hZ2 : Flo.Ab Z 2 := by unfold Flo.Ab at *; grind
  obtain ⟨z, z1, z2, z3⟩ := Flo.d_add (labs e) (labs f) le.1 lf.1 2 (hZ2.eq (by rw [le.2, lf.2, hZ])) (by grind)
  have ez := szd_eq e f he hf ne nf
  rw [z1] at ez
  simp only [Option.some.injEq] at ez
  rw [le.2, lf.2, hZ] at z3
  rw [← ez]
  have o1 : Flo.W 4607182418800017408 = 1 := by have := one_num.2; rw [this]; exact Flo.pw_zero
  have z4 : Flo.Ab (Flo.W z - 1) (255 * Flo.u) := (((z3.add k4).eq (show Flo.W z - Z + (Z - 1) = Flo.W z - 1 by grind)).mono (by grind))
  obtain ⟨d1, a1, a2, a3⟩ := Flo.d_sub z 4607182418800017408 z2 one_num.1 (255 * Flo.u) (z4.eq (by rw [o1])) (by grind)
  obtain ⟨d2, c1, c2, c3⟩ := Flo.d_sub 4607182418800017408 z one_num.1 z2 (255 * Flo.u) (z4.neg.eq (by rw [o1]; grind)) (by grind)
  rw [o1] at a3 c3
  refine ⟨d1, d2, a1, c1, a2, c2, ?_, ?_, ne, nf⟩
  · unfold Flo.Ab at *; grind
  · unfold Flo.Ab at *; grind

/-- MULTIPLIED BY THE SIZE IT IS NEAR THE NUMBER -/
theorem unit_back (a b e f : Nat) (h : Moderate a b) (hd : divD a b (szd a b) 0 = some (e, f)) :
    ∃ p q d1 d2 s, floatBits .mul .f64 e (szd a b) = some p ∧ floatBits .mul .f64 f (szd a b) = some q ∧ floatBits .sub .f64 p a = some d1 ∧ floatBits .sub .f64 q b = some d2 ∧ floatBits .add .f64 (labs d1) (labs d2) = some s ∧ Flo.Nm s ∧
      Flo.W s ≤ 340 * (Flo.u * (Flo.W (labs a) + Flo.W (labs b))) := by
  obtain ⟨e', f', S, hd', ne, nf, hSl, hSe, hS0, s2, het, nz, g0, g1, g2, haS, hbS⟩ := unit_quo a b h
  rw [hd] at hd'
  simp only [Option.some.injEq, Prod.mk.injEq] at hd'
  obtain ⟨rfl, rfl⟩ := hd'
  obtain ⟨ax, bx, fa, fb, s1, -, nla, nlb⟩ := h
  have na := Nm_of_fin fa
  have nb := Nm_of_fin fb
  have u0 := Flo.u_pos
  have u1 := Flo.u_le
  have et0 := Flo.et_pos
  have huS0 := Rat.mul_nonneg (Rat.le_of_lt u0) (Rat.le_of_lt hS0)
  have huS : Flo.u * S ≤ S / 1048576 := by
    have := Rat.mul_le_mul_of_nonneg_right u1 (Rat.le_of_lt hS0); grind
  have huuS : Flo.u * (Flo.u * S) ≤ (Flo.u * S) / 1048576 := by
    have := Rat.mul_le_mul_of_nonneg_right u1 huS0; grind
  have hbig : 32 * Flo.pw 201 < Flo.pw 1023 := by
    have e1 : Flo.pw 206 = 32 * Flo.pw 201 := by rw [show (206 : Int) = 5 + 201 from rfl, Flo.pw_add, show Flo.pw 5 = 32 from Flo.pw_nat 5]
    have e2 : Flo.pw 206 < Flo.pw 1023 := Flo.pw_lt (by omega)
    grind
  have m1 : Flo.Ab (Flo.W e * Flo.W (szd a b)) (2 * S) := ((g1.add haS).eq (show _ = Flo.W e * Flo.W (szd a b) by grind)).mono (by grind)
  have m2 : Flo.Ab (Flo.W f * Flo.W (szd a b)) (2 * S) := ((g2.add hbS).eq (show _ = Flo.W f * Flo.W (szd a b) by grind)).mono (by grind)
  obtain ⟨p, p1, p2, p3⟩ := Flo.d_mul e (szd a b) ne nz (2 * S) m1 (by grind)
  obtain ⟨q, q1, q2, q3⟩ := Flo.d_mul f (szd a b) nf nz (2 * S) m2 (by grind)
  have p64 : p < 2 ^ 64 := by have := floatBits_wf p1; simpa [Lit.wf] using this
  have q64 : q < 2 ^ 64 := by have := floatBits_wf q1; simpa [Lit.wf] using this
  have P : Flo.Ab (Flo.W p - Flo.W a) (127 * (Flo.u * S)) := ((p3.add g1).eq (by grind)).mono (by grind)
  have Q : Flo.Ab (Flo.W q - Flo.W b) (127 * (Flo.u * S)) := ((q3.add g2).eq (by grind)).mono (by grind)
  obtain ⟨d1, i1, i2, i3, i4, i5, i6⟩ := rest_ok p a p2 na p64 S 127 (by grind) (by grind) P s2 het (Rat.le_of_lt hS0)
  obtain ⟨d2, j1, j2, j3, j4, j5, j6⟩ := rest_ok q b q2 nb q64 S 127 (by grind) (by grind) Q s2 het (Rat.le_of_lt hS0)
  obtain ⟨s, r1, r2, r3⟩ := Flo.d_add (labs d1) (labs d2) i4 j4 (256 * (Flo.u * S)) ⟨by grind, by grind⟩ (by grind)
  refine ⟨p, q, d1, d2, s, p1, q1, i1, j1, r1, r2, ?_⟩
  rw [← hSl]
  unfold Flo.Ab at r3
  grind

theorem fA_lt {op : BinOp} {a b : Option Nat} {e : Nat} (h : fA op .f64 a b = some e) : e < 2 ^ 64 := by
  cases a with
  | none => cases h
  | some a =>
    cases b with
    | none => cases h
    | some b =>
      have h' : floatBits op .f64 a b = some e := h
      have := floatBits_wf h'
      simpa [Lit.wf] using this
theorem divD_lt {a b c d e f : Nat} (h : divD a b c d = some (e, f)) : e < 2 ^ 64 ∧ f < 2 ^ 64 := by
  unfold divD at h
  split at h
  · split at h
    · rename_i e' f' hq
      split at h
      · simp only [Option.some.injEq, Prod.mk.injEq] at h
        obtain ⟨rfl, rfl⟩ := h
        unfold qA at hq
        split at hq
        · simp only [Prod.mk.injEq] at hq
          exact ⟨fA_lt hq.1, fA_lt hq.2⟩
        · simp only [Prod.mk.injEq] at hq
          exact ⟨fA_lt hq.1, fA_lt hq.2⟩
      · cases h
    · cases h
  · cases h
theorem le_of_W {a b : Nat} (ha : Flo.Nm a) (hb : Flo.Nm b) (h : Flo.W a ≤ Flo.W b) : (FloatKind.f64.format.order a b == some .lt || FloatKind.f64.format.order a b == some .eq) = true := by
  have o := Flo.order_num Ieee.double a b ha hb
  rw [show FloatKind.f64.format = Ieee.double from rfl, Bool.or_eq_true, beq_iff_eq, beq_iff_eq, o.1, o.2.1]
  show Flo.W a < Flo.W b ∨ Flo.W a = Flo.W b
  grind

end Go.Proofs.Ytlhhcchncobmhaa
