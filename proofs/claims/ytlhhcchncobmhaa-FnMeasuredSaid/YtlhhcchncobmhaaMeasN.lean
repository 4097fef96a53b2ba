/- Plain: the poles and gains of the law FnMeasured; its tests.
   Conditions: those that each statement names. -/
import Derived.Test.YtlhhcchncobmhaaFitF
import Derived.Test.YtlhhcchncobmhaaTest
import Derived.Test.YtlhhcchncobmhaaHalfW
namespace Go.Proofs.Ytlhhcchncobmhaa
set_option linter.unusedSimpArgs false
set_option linter.unusedVariables false
open Go Go.RowKit

/-- the size of a valid mode's pole -/
theorem pole_sz (m : M4) (hm : m.ok) : Flo.Nm (szd (wid m.pr) (wid m.pi)) ∧ Flo.Ab (Flo.W (szd (wid m.pr) (wid m.pi)) - (ra (S m.pr) + ra (S m.pi))) ((ra (S m.pr) + ra (S m.pi)) * Flo.u + Flo.et) := by
  obtain ⟨n1, n2, n3, n4⟩ := hm.nums
  obtain ⟨p1, p2⟩ := hm.pole
  obtain ⟨m3, v3⟩ := wid_num n1
  obtain ⟨m4, v4⟩ := wid_num n2
  obtain ⟨l3, lv3⟩ := labs_num _ (wid_lt m.pr) m3
  obtain ⟨l4, lv4⟩ := labs_num _ (wid_lt m.pi) m4
  rw [v3] at lv3
  rw [v4] at lv4
  have a1 := ra_le p1
  have a2 := ra_le p2
  have a3 := ra_nonneg (S m.pr)
  have a4 := ra_nonneg (S m.pi)
  have hbig : (4 : Rat) < Flo.pw 1023 := by
    have : Flo.pw 2 < Flo.pw 1023 := Flo.pw_lt (by omega)
    rwa [show Flo.pw 2 = 4 from Flo.pw_nat 2] at this
  have he : Flo.W (labs (wid m.pr)) + Flo.W (labs (wid m.pi)) = ra (S m.pr) + ra (S m.pi) := by rw [lv3, lv4]
  obtain ⟨r, r1, r2, r3⟩ := Flo.d_add _ _ l3 l4 (ra (S m.pr) + ra (S m.pi)) (by rw [he]; unfold Flo.Ab; grind) (by grind)
  have hr : szd (wid m.pr) (wid m.pi) = r := by unfold szd; rw [r1]; rfl
  rw [hr]
  rw [he] at r3
  exact ⟨r2, r3⟩
/-- a sum of two absolute values, and the sum of the squares -/
theorem two_sq (x y : Rat) : (ra x + ra y) * (ra x + ra y) ≤ 2 * (x * x + y * y) := by
  have a := ra_sq x
  have b := ra_sq y
  have c := sq_nonneg' (ra x - ra y)
  grind
theorem num_q4 : Flo.Nm 4598175219545276416 ∧ Flo.W 4598175219545276416 = 1 / 4 := by
  have r : Ieee.double.read 4598175219545276416 = .number false 4503599627370496 (-54) := by decide
  refine ⟨⟨_, _, _, r⟩, ?_⟩
  rw [show Flo.W 4598175219545276416 = _ from Flo.V_eq r]
  unfold Flo.val
  have a := Flo.pw_neg_mul 54
  rw [show Flo.pw 54 = 18014398509481984 from Flo.pw_nat 54] at a
  rw [if_neg (by decide), show ((4503599627370496 : Nat) : Rat) = 4503599627370496 from rfl]
  grind
theorem num_q16 : Flo.Nm 4589168020290535424 ∧ Flo.W 4589168020290535424 = 1 / 16 := by
  have r : Ieee.double.read 4589168020290535424 = .number false 4503599627370496 (-56) := by decide
  refine ⟨⟨_, _, _, r⟩, ?_⟩
  rw [show Flo.W 4589168020290535424 = _ from Flo.V_eq r]
  unfold Flo.val
  have a := Flo.pw_neg_mul 56
  rw [show Flo.pw 56 = 72057594037927936 from Flo.pw_nat 56] at a
  rw [if_neg (by decide), show ((4503599627370496 : Nat) : Rat) = 4503599627370496 from rfl]
  grind
def polM (m : M4) : Nat × Nat := (wid m.pr, wid m.pi)
def gaiM (m : M4) : Nat × Nat := (wid m.gr, wid m.gi)
theorem fair_mode (m : M4) (hm : m.ok) (h1 : (FloatKind.f64.format.order (szd (wid m.pr) (wid m.pi)) 4598175219545276416 == some .lt) = false) (h2 : (FloatKind.f64.format.order (szd (wid m.gr) (wid m.gi)) 4589168020290535424 == some .lt) = false) : Fair (polM m) (gaiM m) := by
  obtain ⟨n1, n2, n3, n4⟩ := hm.nums
  obtain ⟨m1, v1⟩ := wid_num n1
  obtain ⟨m2, v2⟩ := wid_num n2
  obtain ⟨m3, v3⟩ := wid_num n3
  obtain ⟨m4, v4⟩ := wid_num n4
  obtain ⟨s1, s2⟩ := pole_sz m hm
  obtain ⟨g1, g2, -⟩ := gain_ok m hm
  obtain ⟨k1, k2⟩ := gain_le hm
  have sq := Valid.square hm
  have u0 := Flo.u_pos
  have u1 := u_tin
  have et0 := Flo.et_pos
  have etu : Flo.et ≤ Flo.u := Flo.pw_le (by omega)
  have o1 := (Flo.order_num Ieee.double _ _ s1 num_q4.1).1
  have o2 := (Flo.order_num Ieee.double _ _ g1 num_q16.1).1
  rw [show Flo.V Ieee.double 4598175219545276416 = 1 / 4 from num_q4.2] at o1
  rw [show Flo.V Ieee.double 4589168020290535424 = 1 / 16 from num_q16.2] at o2
  have b1 : (1 : Rat) / 4 ≤ Flo.W (szd (wid m.pr) (wid m.pi)) := by
    rcases le_tot (1 / 4 : Rat) (Flo.W (szd (wid m.pr) (wid m.pi))) with h | h
    · exact h
    · rcases Rat.le_iff_lt_or_eq.1 h with h | h
      · rw [show FloatKind.f64.format = Ieee.double from rfl, o1.2 h] at h1
        exact absurd h1 (by decide)
      · show 1 / 4 ≤ Flo.W _
        rw [h]; exact Rat.le_refl
  have b2 : (1 : Rat) / 16 ≤ Flo.W (szd (wid m.gr) (wid m.gi)) := by
    rcases le_tot (1 / 16 : Rat) (Flo.W (szd (wid m.gr) (wid m.gi))) with h | h
    · exact h
    · rcases Rat.le_iff_lt_or_eq.1 h with h | h
      · rw [show FloatKind.f64.format = Ieee.double from rfl, o2.2 h] at h2
        exact absurd h2 (by decide)
      · show 1 / 16 ≤ Flo.W _
        rw [h]; exact Rat.le_refl
  have p0 : 0 ≤ ra (S m.pr) + ra (S m.pi) := by have := ra_nonneg (S m.pr); have := ra_nonneg (S m.pi); grind
  have q0 := gm_nonneg m
  have p1 : 1 ≤ 4 * (1 + 1 / 1024) * (ra (S m.pr) + ra (S m.pi)) := by
    have e := Rat.mul_le_mul_of_nonneg_left (show Flo.u * 1048576 ≤ 1 from u1) p0
    have := s2.2
    grind
  have q1 : 1 ≤ 16 * (1 + 1 / 1024) * gm m := by
    have e := Rat.mul_le_mul_of_nonneg_left (show Flo.u * 1048576 ≤ 1 from u1) q0
    have := g2.2
    grind
  have p2 := two_sq (S m.pr) (S m.pi)
  have q2 := two_sq (S m.gr) (S m.gi)
  have p3 := sq_le_sq (show (0 : Rat) ≤ 1 by decide) p1
  have q3 := sq_le_sq (show (0 : Rat) ≤ 1 by decide) q1
  have e1 : nz (polM m) = S m.pr * S m.pr + S m.pi * S m.pi := by unfold nz polM; simp only; rw [v1, v2]
  have e2 : nz (gaiM m) = S m.gr * S m.gr + S m.gi * S m.gi := by unfold nz gaiM; simp only; rw [v3, v4]
  have f1 : Flo.pw (-12) * 4096 = 1 := by
    have a := Flo.pw_neg_mul 12
    rw [show Flo.pw 12 = 4096 from Flo.pw_nat 12] at a
    grind
  have f2 : Flo.pw 24 = 16777216 := Flo.pw_nat 24
  have r1 := sq_le_sq (ra_nonneg (S m.gr)) k1
  have r2 := sq_le_sq (ra_nonneg (S m.gi)) k2
  rw [ra_sq] at r1 r2
  unfold gm at q3
  refine ⟨⟨m1, m2, wid_lt _, wid_lt _⟩, ⟨m3, m4, wid_lt _, wid_lt _⟩, ?_, ?_, ?_, ?_⟩
  · rw [e1]; grind
  · rw [e1]; grind
  · rw [e2]; grind
  · rw [e2, f2]; grind

set_option maxHeartbeats 1600000 in
/-- the law's test of the drift -/
theorem meas_drift (A g d : Nat) (Nr G : Rat) (nA : Flo.Nm A) (vA : Flo.W A = Nr) (hN0 : 0 ≤ Nr) (hN1 : Nr ≤ 512) (ng : Flo.Nm g) (hg : Flo.Ab (Flo.W g - G) (G * Flo.u + Flo.et)) (hG0 : 0 ≤ G) (hG1 : G ≤ 32768)
    (nd : Flo.Nm d) (hd : Flo.W d ≤ Nr * G * (7 / 8) * Flo.pw (-20) + Flo.pw (-120)) :
    Calm .mul .f64 A g ∧ Calm .mul .f64 (opB .mul .f64 A g) (powB 20) ∧ Calm .add .f64 (opB .mul .f64 (opB .mul .f64 A g) (powB 20)) (powB 100) ∧
      leB d (opB .add .f64 (opB .mul .f64 (opB .mul .f64 A g) (powB 20)) (powB 100)) = true := by
  obtain ⟨l1, l2, z20, z100, z120, es0, es1⟩ := pows
  have u0 := Flo.u_pos
  have u1 := u_tiny
  have et0 := Flo.et_pos
  have ee := small'.ee
  have hz : Flo.pw (-20) = 1 / 1048576 := by grind
  obtain ⟨n20, v20⟩ := powB_ok 20 (by omega)
  obtain ⟨n100, v100⟩ := powB_ok 100 (by omega)
  rw [show (-((20 : Nat) : Int)) = -20 from rfl, hz] at v20
  rw [show (-((100 : Nat) : Int)) = -100 from rfl] at v100
  have hNG0 := Rat.mul_nonneg hN0 hG0
  have hNG1 : Nr * G ≤ 16777216 := by
    have a := Rat.mul_le_mul_of_nonneg_right hN1 hG0
    grind
  have hNN : Flo.Ab Nr Nr := ⟨by grind, by grind⟩
  have k0 := (hNN.mul hg).eq (show Nr * (Flo.W g - G) = Flo.W A * Flo.W g - Nr * G by rw [vA]; grind)
  have hNe := Rat.mul_le_mul_of_nonneg_right hN1 (Rat.le_of_lt et0)
  have hNGu := Rat.mul_le_mul_of_nonneg_left u1 hNG0
  have k1 : Flo.Ab (Flo.W A * Flo.W g - Nr * G) (Nr * G * 5 / 1000000 + 2560 * Flo.es) := k0.mono (by grind)
  have heu := Rat.mul_le_mul_of_nonneg_left u1 (Rat.le_of_lt es0)
  have k2 : Flo.Ab (Flo.W A * Flo.W g) (2 * (Nr * G) + 2560 * Flo.es) := by unfold Flo.Ab at *; constructor <;> grind
  obtain ⟨m1, a1, a2, a3⟩ := Flo.d_mul A g nA ng _ k2 (by grind)
  obtain ⟨c1, b1⟩ := Calm.of a1
  have k3 : Flo.Ab (Flo.W m1 - Nr * G) (Nr * G * 6 / 1000000 + 4096 * Flo.es) := ((a3.add k1).eq (by grind)).mono (by grind)
  -- times 2^-20
  have k7 : Flo.Ab (Flo.W m1 * Flo.W (powB 20)) (2 * (Nr * G) + 4096 * Flo.es) := by rw [v20]; unfold Flo.Ab at *; constructor <;> grind
  obtain ⟨m3, e1, e2, e3⟩ := Flo.d_mul m1 (powB 20) a2 n20 _ k7 (by grind)
  obtain ⟨c3, b3⟩ := Calm.of e1
  rw [v20] at e3
  have k8 : Flo.Ab (Flo.W m3 - Nr * G * Flo.pw (-20)) (Nr * G * Flo.pw (-20) * 30 / 1000000 + 2048 * Flo.es) := by
    rw [hz]; unfold Flo.Ab at *; constructor <;> grind
  -- plus 2^-100
  have hQ0 : 0 ≤ Nr * G * Flo.pw (-20) := by rw [hz]; grind
  have hQ1 : Nr * G * Flo.pw (-20) ≤ 65536 := by rw [hz]; grind
  have hdd : Nr * G * (7 / 8) * Flo.pw (-20) = Nr * G * Flo.pw (-20) * (7 / 8) := by grind
  rw [hdd] at hd
  clear hdd
  generalize Nr * G * Flo.pw (-20) = Q at *
  have h100 : 0 < Flo.pw (-100) := Flo.pw_pos _
  have h100b : Flo.pw (-100) ≤ 1 := by rw [← Flo.pw_zero]; exact Flo.pw_le (by omega)
  have k9 : Flo.Ab (Flo.W m3 + Flo.W (powB 100)) (2 * Q + 2 * Flo.pw (-100)) := by rw [v100]; unfold Flo.Ab at *; constructor <;> grind
  have hQu := Rat.mul_le_mul_of_nonneg_left u1 hQ0
  have hzu := Rat.mul_le_mul_of_nonneg_left u1 (Rat.le_of_lt h100)
  obtain ⟨m4, f1, f2, f3⟩ := Flo.d_add m3 (powB 100) e2 n100 _ k9 (by grind)
  obtain ⟨c4, b4⟩ := Calm.of f1
  rw [v100] at f3
  have hlow : Flo.W d ≤ Flo.W m4 := by
    unfold Flo.Ab at k8 f3
    grind
  rw [← b1] at c3 b3
  rw [← b3] at c4 b4
  exact ⟨c1, c3, c4, by rw [b4]; exact (leB_iff nd f2).2 hlow⟩

/-- what MeasureMode rings and how it drifts -/
theorem meas_ring (m : M4) (hm : m.ok) (n : Nat) (hn : n ≤ 2000) : RingOk [m] (inputOf [1065353216]) n ∧ RingDOk [m] (inputOf [1065353216]) n ∧ DiffOk [m] (inputOf [1065353216]) n (((n : Rat) + 2) * gm m * (7 / 8) * Flo.pw (-20) + Flo.pw (-120)) ∧ 0 ≤ ((n : Rat) + 2) * gm m * (7 / 8) * Flo.pw (-20) + Flo.pw (-120) := by
  have one : Sm 1065353216 ∧ S 1065353216 = 1 := by
    have o1 : Ieee.single.read 1065353216 = .number false 8388608 (-23) := by decide
    refine ⟨⟨_, _, _, o1⟩, ?_⟩
    rw [show S 1065353216 = _ from Flo.V_eq o1]; unfold Flo.val
    have e := Flo.pw_neg_mul 23
    have e2 : Flo.pw 23 = 8388608 := Flo.pw_nat 23
    rw [e2] at e
    have e3 : ((8388608 : Nat) : Rat) = 8388608 := rfl
    rw [e3]; simp; grind
  have hg := (gain_ok m hm).2.2
  have g0 := gm_nonneg m
  have hP100 : (2048 : Rat) ≤ Flo.pw 100 := by
    have h1 : Flo.pw 11 ≤ Flo.pw 100 := Flo.pw_le (by omega)
    rwa [show Flo.pw 11 = 2048 from Flo.pw_nat 11] at h1
  have hr : rs gm [m] = gm m := by simp [rs]; grind
  have hx : xsum [1065353216] = 1 := by
    simp only [xsum]
    rw [one.2]
    have : ra (1 : Rat) = 1 := by unfold ra; rw [if_neg (by decide)]
    rw [this]; grind
  have h := drift_ok [m] (by intro m' h'; simp at h'; rw [h']; exact hm) (inputOf [1065353216]) n 1 rfl (by omega) hn (by
    intro i _
    by_cases hi : i < 1
    · obtain rfl : i = 0 := by omega
      exact one.1
    · rw [show inputOf [1065353216] i = 0 from by unfold inputOf; rw [List.getD_eq_getElem?_getD, List.getElem?_eq_none (by simp; omega)]; rfl]
      exact zero_single.1) 1 (fun i _ => by rw [psum_xsum, ← hx]; exact xsum_take_le _ i) (by decide) (by rw [hr]; grind)
  have e : bDrift n 1 (rs gm [m] * 1) = ((n : Rat) + 2) * gm m * (7 / 8) * Flo.pw (-20) + Flo.pw (-120) := by
    unfold bDrift
    rw [hr, show ((1 : Nat) : Rat) = 1 from rfl]
    grind
  rw [e] at h
  exact h

end Go.Proofs.Ytlhhcchncobmhaa
