/- Plain facts: a product with a factor from 0 to 1 is no greater; squares and sums of squares grow with the parts; a damped pole stays valid. No program stands in it.
   Conditions: those that each statement names. -/
import Derived.Test.YtfgofmcpgfofaaaMono
import Derived.Test.YtfgofmcpgfofaaaStep
namespace Go.Proofs.Ytfgofmcpgfofaaa
open Go

namespace Flo
theorem val_ra (s : Bool) (m : Nat) (p : Int) : ra (val s m p) = (m : Rat) * pw p := by
  have h := mag_nonneg m p
  unfold ra val
  cases s
  · simp only [Bool.false_eq_true, if_false]; rw [if_neg (by grind)]; grind
  · simp only [if_true]
    split <;> grind
theorem mul_mono (f : Ieee.Format) (he : 2 ≤ f.exponentBits) (x y x' y' : Nat) (hx : IsNum f x) (hy : IsNum f y) (hx' : IsNum f x') (hy' : IsNum f y') (h : ra (V f x * V f y) ≤ ra (V f x' * V f y')) (hB : ra (V f x' * V f y') < pw (top f)) :
    ∃ r r', f.mul x y = some r ∧ f.mul x' y' = some r' ∧ IsNum f r ∧ IsNum f r' ∧ ra (V f r) ≤ ra (V f r') := by
  obtain ⟨s, m, i, hx⟩ := hx
  obtain ⟨t, n, j, hy⟩ := hy
  obtain ⟨s', m', i', hx'⟩ := hx'
  obtain ⟨t', n', j', hy'⟩ := hy'
  rw [V_eq hx, V_eq hy, V_eq hx', V_eq hy', ← val_mul, ← val_mul, val_ra, val_ra] at h
  rw [V_eq hx', V_eq hy', ← val_mul, val_ra] at hB
  obtain ⟨a, b, c, d, k1, k2, k3⟩ := write_mono f he (s ^^ t) (s' ^^ t') (m * n) (m' * n') (i + j) (i' + j') h hB
  refine ⟨_, _, ?_, ?_, ⟨_, _, _, k1⟩, ⟨_, _, _, k2⟩, ?_⟩
  · unfold Ieee.Format.mul; rw [hx, hy]; rfl
  · unfold Ieee.Format.mul; rw [hx', hy']; rfl
  · rw [V_eq k1, V_eq k2, val_ra, val_ra]; exact k3
theorem add_mono (f : Ieee.Format) (he : 2 ≤ f.exponentBits) (x y x' y' : Nat) (hx : IsNum f x) (hy : IsNum f y) (hx' : IsNum f x') (hy' : IsNum f y') (h : ra (V f x + V f y) ≤ ra (V f x' + V f y')) (hB : ra (V f x' + V f y') < pw (top f)) :
    ∃ r r', f.add x y = some r ∧ f.add x' y' = some r' ∧ IsNum f r ∧ IsNum f r' ∧ ra (V f r) ≤ ra (V f r') := by
  obtain ⟨s, m, i, hx⟩ := hx
  obtain ⟨t, n, j, hy⟩ := hy
  obtain ⟨s', m', i', hx'⟩ := hx'
  obtain ⟨t', n', j', hy'⟩ := hy'
  obtain ⟨q, k, b, h3, h4⟩ := sum_val s t m n i j
  obtain ⟨q', k', b', h3', h4'⟩ := sum_val s' t' m' n' i' j'
  rw [V_eq hx, V_eq hy, V_eq hx', V_eq hy', ← h4, ← h4', val_ra, val_ra] at h
  rw [V_eq hx', V_eq hy', ← h4', val_ra] at hB
  obtain ⟨a, b1, c, d, k1, k2, k3⟩ := write_mono f he q q' k k' b b' h hB
  refine ⟨_, _, ?_, ?_, ⟨_, _, _, k1⟩, ⟨_, _, _, k2⟩, ?_⟩
  · unfold Ieee.Format.add; rw [hx, hy, h3]; rfl
  · unfold Ieee.Format.add; rw [hx', hy', h3']; rfl
  · rw [V_eq k1, V_eq k2, val_ra, val_ra]; exact k3
/-- a product that the format has is exact -/
theorem mul_fix (f : Ieee.Format) (he : 2 ≤ f.exponentBits) (x y z : Nat) (hx : IsNum f x) (hy : IsNum f y) (hz : IsNum f z) (h : ra (V f x * V f y) = ra (V f z)) (hB : ra (V f z) < pw (top f)) :
    ∃ r, f.mul x y = some r ∧ IsNum f r ∧ V f r = V f x * V f y := by
  obtain ⟨s, m, i, hx⟩ := hx
  obtain ⟨t, n, j, hy⟩ := hy
  obtain ⟨q, k, e, hz⟩ := hz
  obtain ⟨b1, b2, -⟩ := read_bound f he z q k e hz
  rw [V_eq hx, V_eq hy, V_eq hz, ← val_mul, val_ra, val_ra] at h
  rw [V_eq hz, val_ra] at hB
  obtain ⟨m', p', k1, k2, k3, k4⟩ := write_exact f he (s ^^ t) (m * n) (i + j) k e h b1 b2 (by rw [h]; exact hB)
  refine ⟨_, ?_, ⟨_, _, _, k1⟩, ?_⟩
  · unfold Ieee.Format.mul; rw [hx, hy]; rfl
  · rw [V_eq k1, V_eq hx, V_eq hy, ← val_mul]; unfold val; rw [k4]
/-- a number's product with itself is not below 0 -/
theorem self_pos (f : Ieee.Format) (he : 2 ≤ f.exponentBits) (x : Nat) (hx : IsNum f x) (hB : ra (V f x * V f x) < pw (top f)) : ∃ r, f.mul x x = some r ∧ 0 ≤ V f r := by
  obtain ⟨s, m, i, hx⟩ := hx
  rw [V_eq hx, ← val_mul, val_ra] at hB
  obtain ⟨a, b, c, d, k1, k2, k3⟩ := write_mono f he (s ^^ s) (s ^^ s) (m * m) (m * m) (i + i) (i + i) (Rat.le_refl) hB
  refine ⟨f.write (.number (s ^^ s) (m * m) (i + i)), ?_, ?_⟩
  · unfold Ieee.Format.mul; rw [hx]; rfl
  · rw [V_eq k1]; unfold val; rw [show (s ^^ s) = false by cases s <;> rfl]; have := mag_nonneg a b; simp only [Bool.false_eq_true, if_false]; grind
end Flo

theorem ra_mul (a b : Rat) : ra (a * b) = ra a * ra b := by
  have le_of : ∀ q : Rat, ¬ q < 0 → 0 ≤ q := fun q h => by grind
  by_cases ha : a < 0 <;> by_cases hb : b < 0
  · have := Rat.mul_pos (show 0 < -a by grind) (show 0 < -b by grind)
    unfold ra
    rw [if_neg (by grind), if_pos ha, if_pos hb]; grind
  · have := Rat.mul_nonneg (show 0 ≤ -a by grind) (le_of b hb)
    unfold ra
    rw [if_pos ha, if_neg hb]
    split <;> grind
  · have := Rat.mul_nonneg (le_of a ha) (show 0 ≤ -b by grind)
    unfold ra
    rw [if_neg ha, if_pos hb]
    split <;> grind
  · have := Rat.mul_nonneg (le_of a ha) (le_of b hb)
    unfold ra
    rw [if_neg (by grind), if_neg ha, if_neg hb]
theorem ra_pos {q : Rat} (h : 0 ≤ q) : ra q = q := by unfold ra; rw [if_neg (by grind)]
theorem sm_mag {b : Nat} (h : Sm b) : ra (S b) < Flo.pw 129 := by
  have h1 := ra_le (single_abs h)
  have h2 : Flo.pw 128 < Flo.pw 129 := Flo.pw_lt (by omega)
  grind

/-- a factor from 0 to 1 makes no part greater -/
theorem damp_part (q t : Nat) (hq : Sm q) (ht : Sm t) (h0 : 0 ≤ S t) (h1 : S t ≤ 1) (hb : ra (S q) ≤ 4) :
    Calm .mul .f32 q t ∧ Sm (opB .mul .f32 q t) ∧ ra (S (opB .mul .f32 q t)) ≤ ra (S q) := by
  have n1 : Sm 1065353216 ∧ S 1065353216 = 1 := by
    have h : Ieee.single.read 1065353216 = .number false 8388608 (-23) := by decide
    refine ⟨⟨_, _, _, h⟩, ?_⟩
    rw [show S 1065353216 = _ from Flo.V_eq h]
    unfold Flo.val
    have := Flo.pw_neg_mul 23
    rw [show Flo.pw 23 = 8388608 from Flo.pw_nat 23] at this
    simp only [Bool.false_eq_true, if_false]
    have e2 : ((8388608 : Nat) : Rat) = 8388608 := rfl
    rw [e2]; grind
  have l1 : (4 : Rat) < Flo.pw 127 := by
    have : Flo.pw 2 < Flo.pw 127 := Flo.pw_lt (by omega)
    rw [show Flo.pw 2 = 4 from Flo.pw_nat 2] at this
    exact this
  have hqn := ra_nonneg (S q)
  have hm := Rat.mul_le_mul_of_nonneg_left h1 hqn
  obtain ⟨r, r', e1, e2, e3, e4, e5⟩ := Flo.mul_mono Ieee.single (by decide) q t q 1065353216 hq ht hq n1.1
    (by rw [ra_mul, ra_mul, ra_pos (show 0 ≤ Flo.V Ieee.single t from h0), show Flo.V Ieee.single 1065353216 = 1 from n1.2, ra_pos (show (0:Rat) ≤ 1 by grind)]; exact hm)
    (by rw [ra_mul, show Flo.V Ieee.single 1065353216 = 1 from n1.2, ra_pos (show (0:Rat) ≤ 1 by grind), show Flo.top Ieee.single = 127 from by decide]; show ra (S q) * 1 < _; grind)
  obtain ⟨z, z1, z2, z3⟩ := Flo.mul_fix Ieee.single (by decide) q 1065353216 q hq n1.1 hq
    (by rw [show Flo.V Ieee.single 1065353216 = 1 from n1.2, show Flo.V Ieee.single q * 1 = Flo.V Ieee.single q by grind])
    (by rw [show Flo.top Ieee.single = 127 from by decide]; show ra (S q) < _; grind)
  rw [e2] at z1
  cases z1
  rw [z3, show Flo.V Ieee.single 1065353216 = 1 from n1.2, show Flo.V Ieee.single q * 1 = Flo.V Ieee.single q by grind] at e5
  obtain ⟨c1, b1⟩ := Calm.of (show floatBits .mul .f32 q t = some r from e1)
  rw [b1]
  exact ⟨c1, e3, e5⟩

/-- squares grow with the numbers -/
theorem square_part (p q : Nat) (hp : Sm p) (hq : Sm q) (h : ra (S p) ≤ ra (S q)) (hb : ra (S q) ≤ 4) :
    Calm .mul .f32 p p ∧ Calm .mul .f32 q q ∧ Sm (opB .mul .f32 p p) ∧ Sm (opB .mul .f32 q q) ∧ ra (S (opB .mul .f32 p p)) ≤ ra (S (opB .mul .f32 q q)) := by
  have l1 : (16 : Rat) < Flo.pw 127 := by
    have : Flo.pw 4 < Flo.pw 127 := Flo.pw_lt (by omega)
    rw [show Flo.pw 4 = 16 from Flo.pw_nat 4] at this
    exact this
  have a0 := ra_nonneg (S p)
  have b0 := ra_nonneg (S q)
  have k1 := Rat.mul_le_mul_of_nonneg_left h a0
  have k2 := Rat.mul_le_mul_of_nonneg_right h b0
  have k3 := Rat.mul_le_mul_of_nonneg_left hb b0
  obtain ⟨r, r', e1, e2, e3, e4, e5⟩ := Flo.mul_mono Ieee.single (by decide) p p q q hp hp hq hq
    (by rw [ra_mul, ra_mul]; show ra (S p) * ra (S p) ≤ ra (S q) * ra (S q); grind)
    (by rw [ra_mul, show Flo.top Ieee.single = 127 from by decide]; show ra (S q) * ra (S q) < _; grind)
  obtain ⟨c1, b1⟩ := Calm.of (show floatBits .mul .f32 p p = some r from e1)
  obtain ⟨c2, b2⟩ := Calm.of (show floatBits .mul .f32 q q = some r' from e2)
  rw [b1, b2]
  exact ⟨c1, c2, e3, e4, e5⟩

/-- the sum of the squares grows with the parts -/
theorem sqr_mono (a b c d : Nat) (ha : Sm a) (hb : Sm b) (hc : Sm c) (hd : Sm d) (h1 : ra (S a) ≤ ra (S c)) (h2 : ra (S b) ≤ ra (S d)) (hc4 : ra (S c) ≤ 4) (hd4 : ra (S d) ≤ 4) :
    ra (Flo.W (sqr (wid a) (wid b))) ≤ ra (Flo.W (sqr (wid c) (wid d))) := by
  obtain ⟨na, va⟩ := wid_num ha
  obtain ⟨nb, vb⟩ := wid_num hb
  obtain ⟨nc, vc⟩ := wid_num hc
  obtain ⟨nd, vd⟩ := wid_num hd
  have l1 : (64 : Rat) < Flo.pw 1023 := by
    have : Flo.pw 6 < Flo.pw 1023 := Flo.pw_lt (by omega)
    rw [show Flo.pw 6 = 64 from Flo.pw_nat 6] at this
    exact this
  have sqm : ∀ x y : Nat, Flo.Nm x → Flo.Nm y → ra (Flo.W x) ≤ ra (Flo.W y) → ra (Flo.W y) ≤ 4 →
      ∃ r r', floatBits .mul .f64 x x = some r ∧ floatBits .mul .f64 y y = some r' ∧ Flo.Nm r ∧ Flo.Nm r' ∧ 0 ≤ Flo.W r ∧ 0 ≤ Flo.W r' ∧ Flo.W r ≤ Flo.W r' ∧ Flo.W r' ≤ 17 := by
    intro x y nx ny h h4
    have a0 := ra_nonneg (Flo.W x)
    have b0 := ra_nonneg (Flo.W y)
    have k1 := Rat.mul_le_mul_of_nonneg_left h a0
    have k2 := Rat.mul_le_mul_of_nonneg_right h b0
    have k3 := Rat.mul_le_mul_of_nonneg_left h4 b0
    obtain ⟨r, r', e1, e2, e3, e4, e5⟩ := Flo.mul_mono Ieee.double (by decide) x x y y nx nx ny ny
      (by rw [ra_mul, ra_mul]; show ra (Flo.W x) * ra (Flo.W x) ≤ ra (Flo.W y) * ra (Flo.W y); grind)
      (by rw [ra_mul, Flo.top_double]; show ra (Flo.W y) * ra (Flo.W y) < _; grind)
    obtain ⟨q, q1, q2⟩ := Flo.self_pos Ieee.double (by decide) x nx (by rw [ra_mul, Flo.top_double]; show ra (Flo.W x) * ra (Flo.W x) < _; grind)
    obtain ⟨q', q1', q2'⟩ := Flo.self_pos Ieee.double (by decide) y ny (by rw [ra_mul, Flo.top_double]; show ra (Flo.W y) * ra (Flo.W y) < _; grind)
    rw [e1] at q1
    rw [e2] at q1'
    cases q1
    cases q1'
    obtain ⟨r2, d1, d2, d3⟩ := Flo.d_mul y y ny ny 16 ⟨by have := ra_mul (Flo.W y) (Flo.W y); have := ra_ab (Flo.W y * Flo.W y); unfold Flo.Ab at this; grind, by have := ra_mul (Flo.W y) (Flo.W y); have := ra_ab (Flo.W y * Flo.W y); unfold Flo.Ab at this; grind⟩ (by grind)
    rw [show floatBits .mul .f64 y y = some r' from e2] at d1
    cases d1
    have u1 := Flo.u_le
    have eu : Flo.et ≤ Flo.u := Flo.pw_le (by omega)
    have hy2 : Flo.W y * Flo.W y ≤ 16 := by have := ra_mul (Flo.W y) (Flo.W y); have := ra_ab (Flo.W y * Flo.W y); unfold Flo.Ab at this; grind
    refine ⟨r, r', e1, e2, e3, e4, q2, q2', ?_, ?_⟩
    · rw [ra_pos q2, ra_pos q2'] at e5; exact e5
    · unfold Flo.Ab at d3; grind
  obtain ⟨r1, r1', a1, a2, a3, a4, a5, a6, a7, a8⟩ := sqm (wid a) (wid c) na nc (by rw [va, vc]; exact h1) (by rw [vc]; exact hc4)
  obtain ⟨r2, r2', b1, b2, b3, b4, b5, b6, b7, b8⟩ := sqm (wid b) (wid d) nb nd (by rw [vb, vd]; exact h2) (by rw [vd]; exact hd4)
  obtain ⟨r, r', e1, e2, e3, e4, e5⟩ := Flo.add_mono Ieee.double (by decide) r1 r2 r1' r2' a3 b3 a4 b4
    (by show ra (Flo.W r1 + Flo.W r2) ≤ ra (Flo.W r1' + Flo.W r2'); rw [ra_pos (by grind), ra_pos (by grind)]; grind)
    (by rw [Flo.top_double]; show ra (Flo.W r1' + Flo.W r2') < _; rw [ra_pos (by grind)]; grind)
  have f1 : sqr (wid a) (wid b) = r := by
    unfold sqr; rw [a1, b1]; simp only [Option.getD_some]; rw [show floatBits .add .f64 r1 r2 = some r from e1]; rfl
  have f2 : sqr (wid c) (wid d) = r' := by
    unfold sqr; rw [a2, b2]; simp only [Option.getD_some]; rw [show floatBits .add .f64 r1' r2' = some r' from e2]; rfl
  rw [f1, f2]
  exact e5
end Go.Proofs.Ytfgofmcpgfofaaa
