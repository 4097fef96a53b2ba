/- One step of a mode in double precision: its bits, how near it is to the exact step, and the walk of stepDouble; no NaN and no infinity is met.
   Conditions: those that each statement names. -/
import Derived.Test.YtlhhcchncobmhaaStep
namespace Go.Proofs.Ytlhhcchncobmhaa
set_option linter.unusedSimpArgs false
set_option linter.unusedVariables false
open Go Go.RowKit

def mulDre (a b c d : Nat) : Nat := opB .sub .f64 (opB .mul .f64 a c) (opB .mul .f64 b d)
def mulDim (a b c d : Nat) : Nat := opB .add .f64 (opB .mul .f64 a d) (opB .mul .f64 b c)
def stepD (m : M4) (s : Nat × Nat) (x : Nat) : Nat × Nat :=
  (opB .add .f64 (mulDre s.1 s.2 (wid m.pr) (wid m.pi)) (opB .mul .f64 (wid m.gr) x), opB .add .f64 (mulDim s.1 s.2 (wid m.pr) (wid m.pi)) (opB .mul .f64 (wid m.gi) x))

structure StepDOk (m : M4) (s : Nat × Nat) (x : Nat) : Prop where
  a1 : Calm .mul .f64 s.1 (wid m.pr)
  a2 : Calm .mul .f64 s.2 (wid m.pi)
  a3 : Calm .sub .f64 (opB .mul .f64 s.1 (wid m.pr)) (opB .mul .f64 s.2 (wid m.pi))
  a4 : Calm .mul .f64 s.1 (wid m.pi)
  a5 : Calm .mul .f64 s.2 (wid m.pr)
  a6 : Calm .add .f64 (opB .mul .f64 s.1 (wid m.pi)) (opB .mul .f64 s.2 (wid m.pr))
  c1 : Calm .mul .f64 (wid m.gr) x
  c2 : Calm .mul .f64 (wid m.gi) x
  c3 : Calm .add .f64 (mulDre s.1 s.2 (wid m.pr) (wid m.pi)) (opB .mul .f64 (wid m.gr) x)
  c4 : Calm .add .f64 (mulDim s.1 s.2 (wid m.pr) (wid m.pi)) (opB .mul .f64 (wid m.gi) x)

/-- the sums of the errors of one part, in plain numbers -/
theorem stepD_sum (D R H u v et es : Rat) (hD : 0 ≤ D) (hR : 0 ≤ R) (hH : 0 ≤ H) (u0 : 0 < u) (huv : u ≤ v / 536870912) (ve : v * 16777216 = 1) (e0 : 0 < et) (ee : et ≤ es / 1024) :
    0 ≤ R * u ∧ 0 ≤ D * u ∧ 0 ≤ H * u ∧ 0 ≤ et * u ∧ R * u ≤ R / 1048576 ∧ D * u ≤ D / 1048576 ∧ H * u ≤ H / 1048576 ∧ et * u ≤ et ∧ 
    (D + 2 * (2 * R * u + et)) * u + et + 2 * (2 * R * u + et) ≤ D / 1048576 + R / 65536 + es ∧
    (D + ((D + 2 * (2 * R * u + et)) * u + et + 2 * (2 * R * u + et)) + (H + (H * u + et))) * u + et + ((D + 2 * (2 * R * u + et)) * u + et + 2 * (2 * R * u + et)) + (H * u + et) ≤ (2 * D + 2 * H) * v + (D + R + H) * v / 1024 + 6 * es := by
  have hv : v = 1 / 16777216 := by grind
  subst hv
  have u1 : u ≤ 1 / 1048576 := by grind
  have k1 := Rat.mul_le_mul_of_nonneg_left huv hR
  have k2 := Rat.mul_nonneg hR (Rat.le_of_lt u0)
  have d1 := Rat.mul_le_mul_of_nonneg_left huv hD
  have d2 := Rat.mul_nonneg hD (Rat.le_of_lt u0)
  have h1 := Rat.mul_le_mul_of_nonneg_left huv hH
  have h2 := Rat.mul_nonneg hH (Rat.le_of_lt u0)
  have t1 := Rat.mul_le_mul_of_nonneg_left u1 (Rat.le_of_lt e0)
  have t2 := Rat.mul_nonneg (Rat.le_of_lt e0) (Rat.le_of_lt u0)
  have k3 := Rat.mul_le_mul_of_nonneg_left u1 k2
  have k4 := Rat.mul_nonneg k2 (Rat.le_of_lt u0)
  have k5 := Rat.mul_le_mul_of_nonneg_left u1 k4
  have d3 := Rat.mul_le_mul_of_nonneg_left u1 d2
  have d4 := Rat.mul_nonneg d2 (Rat.le_of_lt u0)
  have h3 := Rat.mul_le_mul_of_nonneg_left u1 h2
  have t3 := Rat.mul_le_mul_of_nonneg_left u1 t2
  refine ⟨k2, d2, h2, t2, by grind, by grind, by grind, by grind, by grind, by grind⟩

theorem partD_step (o : BinOp) (a c b d g x : Nat) (ha : Flo.Nm a) (hc : Flo.Nm c) (hb : Flo.Nm b) (hd : Flo.Nm d) (hg : Flo.Nm g) (hx : Flo.Nm x) (e D R H : Rat) (ho : (o = .sub ∧ e = Flo.W a * Flo.W c - Flo.W b * Flo.W d) ∨ (o = .add ∧ e = Flo.W a * Flo.W c + Flo.W b * Flo.W d))
    (h1 : Flo.Ab (Flo.W a * Flo.W c) (2 * R)) (h2 : Flo.Ab (Flo.W b * Flo.W d) (2 * R)) (he : Flo.Ab e D) (hH : Flo.Ab (Flo.W g * Flo.W x) H) (hRt : R ≤ Flo.pw 110) (hDt : D ≤ Flo.pw 112) (hHt : H ≤ Flo.pw 112) :
    Calm .mul .f64 a c ∧ Calm .mul .f64 b d ∧ Calm o .f64 (opB .mul .f64 a c) (opB .mul .f64 b d) ∧ Calm .mul .f64 g x ∧ Calm .add .f64 (opB o .f64 (opB .mul .f64 a c) (opB .mul .f64 b d)) (opB .mul .f64 g x) ∧
      Flo.Nm (opB .add .f64 (opB o .f64 (opB .mul .f64 a c) (opB .mul .f64 b d)) (opB .mul .f64 g x)) ∧
      Flo.Ab (Flo.W (opB .add .f64 (opB o .f64 (opB .mul .f64 a c) (opB .mul .f64 b d)) (opB .mul .f64 g x)) - (e + Flo.W g * Flo.W x)) ((2 * D + 2 * H) * Flo.v + (D + R + H) * Flo.v / 1024 + 6 * Flo.es) := by
  have hR0 : 0 ≤ R := by have := h1.nonneg; grind
  obtain ⟨s1, s2, s3, s4, s5, s6, s7, s8, s9, s10⟩ := stepD_sum D R H Flo.u Flo.v Flo.et Flo.es he.nonneg hR0 hH.nonneg Flo.u_pos uv Flo.v_eq Flo.et_pos small'.ee
  have l1 : Flo.pw 112 = 4 * Flo.pw 110 := by rw [show (112 : Int) = 2 + 110 from rfl, Flo.pw_add, show Flo.pw 2 = 4 from Flo.pw_nat 2]
  have l2 : Flo.pw 120 = 256 * Flo.pw 112 := by rw [show (120 : Int) = 8 + 112 from rfl, Flo.pw_add, show Flo.pw 8 = 256 from Flo.pw_nat 8]
  have l3 := Flo.pw_lt (a := 120) (b := 1023) (by omega)
  have l4 : 1 ≤ Flo.pw 110 := by rw [← Flo.pw_zero]; exact Flo.pw_le (by omega)
  have es1 := small'.es1
  have ee := small'.ee
  have et0 := Flo.et_pos
  obtain ⟨p, p1, p2, p3⟩ := Flo.d_mul a c ha hc (2 * R) h1 (by grind)
  obtain ⟨q, q1, q2, q3⟩ := Flo.d_mul b d hb hd (2 * R) h2 (by grind)
  obtain ⟨c1, b1⟩ := Calm.of p1
  obtain ⟨c2, b2⟩ := Calm.of q1
  obtain ⟨r, r1, r2, r3⟩ : ∃ r, floatBits o .f64 p q = some r ∧ Flo.Nm r ∧ Flo.Ab (Flo.W r - e) ((D + 2 * (2 * R * Flo.u + Flo.et)) * Flo.u + Flo.et + 2 * (2 * R * Flo.u + Flo.et)) := by
    rcases ho with ⟨rfl, rfl⟩ | ⟨rfl, rfl⟩
    · have hpq : Flo.Ab (Flo.W p - Flo.W q) (D + 2 * (2 * R * Flo.u + Flo.et)) := ((he.add (p3.sub q3)).eq (by grind)).mono (by grind)
      obtain ⟨r, r1, r2, r3⟩ := Flo.d_sub p q p2 q2 _ hpq (by grind)
      exact ⟨r, r1, r2, ((r3.add (p3.sub q3)).eq (by grind)).mono (by grind)⟩
    · have hpq : Flo.Ab (Flo.W p + Flo.W q) (D + 2 * (2 * R * Flo.u + Flo.et)) := ((he.add (p3.add q3)).eq (by grind)).mono (by grind)
      obtain ⟨r, r1, r2, r3⟩ := Flo.d_add p q p2 q2 _ hpq (by grind)
      exact ⟨r, r1, r2, ((r3.add (p3.add q3)).eq (by grind)).mono (by grind)⟩
  obtain ⟨c3, b3⟩ := Calm.of r1
  obtain ⟨y, y1, y2, y3⟩ := Flo.d_mul g x hg hx H hH (by grind)
  obtain ⟨c4, b4⟩ := Calm.of y1
  have hs : Flo.Ab (Flo.W r + Flo.W y) (D + ((D + 2 * (2 * R * Flo.u + Flo.et)) * Flo.u + Flo.et + 2 * (2 * R * Flo.u + Flo.et)) + (H + (H * Flo.u + Flo.et))) := ((he.add r3).add (hH.add y3)).eq (by grind)
  obtain ⟨z, z1, z2, z3⟩ := Flo.d_add r y r2 y2 _ hs (by grind)
  obtain ⟨c5, b5⟩ := Calm.of z1
  rw [← b1, ← b2] at c3 b3
  rw [← b3, ← b4] at c5 b5
  refine ⟨c1, c2, c3, c4, c5, by rw [b5]; exact z2, ?_⟩
  rw [b5]
  exact (((z3.add r3).add y3).eq (by grind)).mono s10

/-- ONE STEP OF A VALID MODE, in double precision. -/
theorem stepD_ok (m : M4) (hm : m.ok) (s : Nat × Nat) (x : Nat) (h1 : Flo.Nm s.1) (h2 : Flo.Nm s.2) (hx : Flo.Nm x) (R D H : Rat) (r1 : Flo.Ab (Flo.W s.1) R) (r2 : Flo.Ab (Flo.W s.2) R)
    (d1 : Flo.Ab (Flo.W s.1 * S m.pr - Flo.W s.2 * S m.pi) D) (d2 : Flo.Ab (Flo.W s.1 * S m.pi + Flo.W s.2 * S m.pr) D) (g1 : Flo.Ab (S m.gr * Flo.W x) H) (g2 : Flo.Ab (S m.gi * Flo.W x) H) (hRt : R ≤ Flo.pw 110) (hDt : D ≤ Flo.pw 112) (hHt : H ≤ Flo.pw 112) :
    StepDOk m s x ∧ Flo.Nm (stepD m s x).1 ∧ Flo.Nm (stepD m s x).2 ∧
      Flo.Ab (Flo.W (stepD m s x).1 - (Flo.W s.1 * S m.pr - Flo.W s.2 * S m.pi + S m.gr * Flo.W x)) ((2 * D + 2 * H) * Flo.v + (D + R + H) * Flo.v / 1024 + 6 * Flo.es) ∧
      Flo.Ab (Flo.W (stepD m s x).2 - (Flo.W s.1 * S m.pi + Flo.W s.2 * S m.pr + S m.gi * Flo.W x)) ((2 * D + 2 * H) * Flo.v + (D + R + H) * Flo.v / 1024 + 6 * Flo.es) := by
  obtain ⟨n1, n2, n3, n4⟩ := hm.nums
  obtain ⟨q1, q2⟩ := hm.pole
  obtain ⟨m1, v1⟩ := wid_num n1
  obtain ⟨m2, v2⟩ := wid_num n2
  obtain ⟨m3, v3⟩ := wid_num n3
  obtain ⟨m4, v4⟩ := wid_num n4
  rw [← v1] at d1 d2 q1 ⊢
  rw [← v2] at d1 d2 q2 ⊢
  rw [← v3] at g1 ⊢
  rw [← v4] at g2 ⊢
  have k1 : Flo.Ab (Flo.W s.1 * Flo.W (wid m.pr)) (2 * R) := (r1.mul q1).mono (by grind)
  have k2 : Flo.Ab (Flo.W s.2 * Flo.W (wid m.pi)) (2 * R) := (r2.mul q2).mono (by grind)
  have k3 : Flo.Ab (Flo.W s.1 * Flo.W (wid m.pi)) (2 * R) := (r1.mul q2).mono (by grind)
  have k4 : Flo.Ab (Flo.W s.2 * Flo.W (wid m.pr)) (2 * R) := (r2.mul q1).mono (by grind)
  obtain ⟨a1, a2, a3, a4, a5, a6, a7⟩ := partD_step .sub s.1 (wid m.pr) s.2 (wid m.pi) (wid m.gr) x h1 m1 h2 m2 m3 hx _ D R H (.inl ⟨rfl, rfl⟩) k1 k2 d1 g1 hRt hDt hHt
  obtain ⟨b1, b2, b3, b4, b5, b6, b7⟩ := partD_step .add s.1 (wid m.pi) s.2 (wid m.pr) (wid m.gi) x h1 m2 h2 m1 m4 hx _ D R H (.inr ⟨rfl, rfl⟩) k3 k4 d2 g2 hRt hDt hHt
  exact ⟨⟨a1, a2, a3, b1, b2, b3, a4, b4, a5, b5⟩, a6, b6, a7, b7⟩

/-! ### the walks -/
theorem implScaleD_ok (a b x : Nat) (w : World) (h1 : Calm .mul .f64 a x) (h2 : Calm .mul .f64 b x) :
    Calls Try.prog 114 #[.complex .f64 a b, .float .f64 x] w fun e w' => e = .returned (.complex .f64 (opB .mul .f64 a x) (opB .mul .f64 b x)) ∧ w = w' := by
  have r1 := h1.res
  have r2 := h2.res
  have q1 := h1.fdr
  have q2 := h2.fdr
  clear h1 h2
  go_enter Try.func114, Try.ntmps114
  go_wp2
  all_goals (go_ret; exact ⟨rfl, rfl⟩)

theorem stepDouble_ok (m : M4) (s : Nat × Nat) (x : Nat) (w : World) (h : StepDOk m s x) :
    Calls Try.prog 87 #[.complex .f64 (wid m.pr) (wid m.pi), .complex .f64 (wid m.gr) (wid m.gi), .complex .f64 s.1 s.2, .float .f64 x] w fun e w' => e = .returned (.complex .f64 (stepD m s x).1 (stepD m s x).2) ∧ w = w' := by
  have r3 := h.c3.res
  have r4 := h.c4.res
  have q3 := h.c3.fdr
  have q4 := h.c4.fdr
  have Hh := Lib.hid h
  clear h
  go_enter Try.func87, Try.ntmps87
  go_wp2_with fail
  refine (implMul_calm _ _ _ _ _ Hh.out.a1 Hh.out.a2 Hh.out.a3 Hh.out.a4 Hh.out.a5 Hh.out.a6).mono ?_
  rintro e w' ⟨rfl, rfl⟩
  rw [show opB .sub .f64 (opB .mul .f64 s.1 (wid m.pr)) (opB .mul .f64 s.2 (wid m.pi)) = mulDre s.1 s.2 (wid m.pr) (wid m.pi) from rfl, show opB .add .f64 (opB .mul .f64 s.1 (wid m.pi)) (opB .mul .f64 s.2 (wid m.pr)) = mulDim s.1 s.2 (wid m.pr) (wid m.pi) from rfl]
  go_wp2_with fail
  refine (implScaleD_ok _ _ _ _ Hh.out.c1 Hh.out.c2).mono ?_
  rintro e w' ⟨rfl, rfl⟩
  go_wp2
  go_ret
  exact ⟨rfl, rfl⟩

end Go.Proofs.Ytlhhcchncobmhaa
