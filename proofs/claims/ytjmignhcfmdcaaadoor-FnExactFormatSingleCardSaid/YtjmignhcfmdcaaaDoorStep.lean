/- One step of a mode in single precision: its bits, how near it is to the exact step, and the walks of MultiplySingle, ScaleSingle and StepMode.
   Conditions: those that each statement names. -/
import Derived.Test.YtjmignhcfmdcaaaDoorSmall
namespace Go.Proofs.YtjmignhcfmdcaaaDoor
set_option linter.unusedSimpArgs false
set_option linter.unusedVariables false
open Go Go.RowKit

/-- the bits of an operation that has a number, or an infinity, as its result -/
def opB (o : BinOp) (k : FloatKind) (x y : Nat) : Nat := (floatBits o k x y).getD 0
/-- it draws nothing -/
def Calm (o : BinOp) (k : FloatKind) (x y : Nat) : Prop := floatBits o k x y = some (opB o k x y)
theorem Calm.of {o : BinOp} {k : FloatKind} {x y r : Nat} (h : floatBits o k x y = some r) : Calm o k x y ∧ opB o k x y = r := by
  have e : opB o k x y = r := by unfold opB; rw [h]; rfl
  exact ⟨by unfold Calm; rw [e]; exact h, e⟩
theorem Calm.res {o : BinOp} {k : FloatKind} {x y : Nat} (h : Calm o k x y) (w : World) : fres w o k x y = opB o k x y := by unfold fres; rw [h]
theorem Calm.fdr {o : BinOp} {k : FloatKind} {x y : Nat} (h : Calm o k x y) : fdr o k x y = 0 := by unfold Go.Proofs.YtjmignhcfmdcaaaDoor.fdr; rw [h]; rfl

theorem Calm.run {P : Program} {k : FloatKind} {x y : Nat} (h : Calm .add k x y) (t : TypeId) (w : World) : (binOp .add t (.float k x) (.float k y)).run P w = .ok (.float k (opB .add k x y)) w := by
  rw [run_fl_add, h.res, h.fdr]; rfl

/-! ### products in single precision -/
def mulSre (a b c d : Nat) : Nat := Flo.nar (opB .sub .f64 (opB .mul .f64 (wid a) (wid c)) (opB .mul .f64 (wid b) (wid d)))
def mulSim (a b c d : Nat) : Nat := Flo.nar (opB .add .f64 (opB .mul .f64 (wid a) (wid d)) (opB .mul .f64 (wid b) (wid c)))

/-- all that is known of one part of a product: nothing is drawn, and the result is near the exact one -/
structure PartOk (o : BinOp) (a c b d : Nat) (exact D K : Rat) : Prop where
  c1 : Calm .mul .f64 (wid a) (wid c)
  c2 : Calm .mul .f64 (wid b) (wid d)
  c3 : Calm o .f64 (opB .mul .f64 (wid a) (wid c)) (opB .mul .f64 (wid b) (wid d))
  n1 : ∀ w, fcv w .f64 (opB o .f64 (opB .mul .f64 (wid a) (wid c)) (opB .mul .f64 (wid b) (wid d))) .f32 = Flo.nar (opB o .f64 (opB .mul .f64 (wid a) (wid c)) (opB .mul .f64 (wid b) (wid d)))
  n2 : fcd .f64 (opB o .f64 (opB .mul .f64 (wid a) (wid c)) (opB .mul .f64 (wid b) (wid d))) .f32 = 0
  num : Sm (Flo.nar (opB o .f64 (opB .mul .f64 (wid a) (wid c)) (opB .mul .f64 (wid b) (wid d))))
  near : Flo.Ab (S (Flo.nar (opB o .f64 (opB .mul .f64 (wid a) (wid c)) (opB .mul .f64 (wid b) (wid d)))) - exact) (D * Flo.v + (D + K) * Flo.v / 16777216 + 2 * Flo.es)

theorem uv : Flo.u ≤ Flo.v / 536870912 := Flo.u_le_v

/-- the sums of the errors, in plain numbers -/
theorem part_sum (D K u v et es : Rat) (hD : 0 ≤ D) (hK : 0 ≤ K) (u0 : 0 < u) (huv : u ≤ v / 536870912) (ve : v * 16777216 = 1) (e0 : 0 < et) (ee : et ≤ es / 1024) :
    0 ≤ K * u ∧ K * u ≤ K / 1048576 ∧ (D + 2 * (K * u + et)) * u + et + 2 * (K * u + et) ≤ D / 1048576 + K / 1048576 + es ∧
    (D + ((D + 2 * (K * u + et)) * u + et + 2 * (K * u + et))) * v + es + ((D + 2 * (K * u + et)) * u + et + 2 * (K * u + et)) ≤ D * v + (D + K) * v / 16777216 + 2 * es := by
  have hv : v = 1 / 16777216 := by grind
  subst hv
  have u1 : u ≤ 1 / 1048576 := by grind
  have k1 := Rat.mul_le_mul_of_nonneg_left huv hK
  have k2 := Rat.mul_nonneg hK (Rat.le_of_lt u0)
  have d1 := Rat.mul_le_mul_of_nonneg_left huv hD
  have d2 := Rat.mul_nonneg hD (Rat.le_of_lt u0)
  have k3 := Rat.mul_le_mul_of_nonneg_left u1 k2
  have k4 := Rat.mul_nonneg k2 (Rat.le_of_lt u0)
  have t1 := Rat.mul_le_mul_of_nonneg_left u1 (Rat.le_of_lt e0)
  have t2 := Rat.mul_nonneg (Rat.le_of_lt e0) (Rat.le_of_lt u0)
  refine ⟨k2, by grind, by grind, by grind⟩

structure Small' : Prop where
  ee : Flo.et ≤ Flo.es / 1024
  es1 : Flo.es ≤ 1 / 1048576
  o120 : 1 ≤ Flo.pw 120
  l0 : Flo.pw 127 < Flo.pw 1023
  l2 : Flo.pw 123 = 8 * Flo.pw 120
  l3 : Flo.pw 126 = 2 * Flo.pw 125
  l4 : Flo.pw 127 = 2 * Flo.pw 126
  l5 : Flo.pw 125 = 4 * Flo.pw 123
theorem small' : Small' where
  ee := by
    have : Flo.pw (-1074) ≤ Flo.pw (-159) := Flo.pw_le (by omega)
    have e2 : Flo.pw (-149) = 1024 * Flo.pw (-159) := by rw [show (-149 : Int) = 10 + -159 from rfl, Flo.pw_add, show Flo.pw 10 = 1024 from Flo.pw_nat 10]
    unfold Flo.et Flo.es
    grind
  es1 := by
    have h : Flo.pw (-149) ≤ Flo.pw (-20) := Flo.pw_le (by omega)
    have e := Flo.pw_neg_mul 20
    rw [show Flo.pw 20 = 1048576 from Flo.pw_nat 20] at e
    unfold Flo.es; grind
  o120 := by rw [← Flo.pw_zero]; exact Flo.pw_le (by omega)
  l0 := Flo.pw_lt (by omega)
  l2 := by rw [show (123 : Int) = 3 + 120 from rfl, Flo.pw_add, show Flo.pw 3 = 8 from Flo.pw_nat 3]
  l3 := by rw [← Flo.pw_succ]; rfl
  l4 := by rw [← Flo.pw_succ]; rfl
  l5 := by rw [show (125 : Int) = 2 + 123 from rfl, Flo.pw_add, show Flo.pw 2 = 4 from Flo.pw_nat 2]

/-- what the rounded difference of two rounded products is -/
theorem part_sub (a c b d : Nat) (ha : Sm a) (hc : Sm c) (hb : Sm b) (hd : Sm d) (K D : Rat) (h1 : Flo.Ab (S a * S c) K) (h2 : Flo.Ab (S b * S d) K) (hD : Flo.Ab (S a * S c - S b * S d) D) (hK : K ≤ Flo.pw 120) (hDt : D ≤ Flo.pw 125) :
    PartOk .sub a c b d (S a * S c - S b * S d) D K := by
  obtain ⟨na, va⟩ := wid_num ha
  obtain ⟨nc, vc⟩ := wid_num hc
  obtain ⟨nb, vb⟩ := wid_num hb
  obtain ⟨nd, vd⟩ := wid_num hd
  obtain ⟨ee, es1, o120, l0, l2, l3, l4, l5⟩ := small'
  obtain ⟨s0, s1, s2, s3⟩ := part_sum D K Flo.u Flo.v Flo.et Flo.es hD.nonneg h1.nonneg Flo.u_pos uv Flo.v_eq Flo.et_pos ee
  have e0 := Flo.et_pos
  obtain ⟨p, p1, p2, p3⟩ := Flo.d_mul (wid a) (wid c) na nc K (by rw [va, vc]; exact h1) (by grind)
  obtain ⟨q, q1, q2, q3⟩ := Flo.d_mul (wid b) (wid d) nb nd K (by rw [vb, vd]; exact h2) (by grind)
  rw [va, vc] at p3
  rw [vb, vd] at q3
  have hpq : Flo.Ab (Flo.W p - Flo.W q) (D + 2 * (K * Flo.u + Flo.et)) := ((hD.add (p3.sub q3)).eq (by grind)).mono (by grind)
  obtain ⟨r, r1, r2, r3⟩ := Flo.d_sub p q p2 q2 _ hpq (by grind)
  obtain ⟨c1, b1⟩ := Calm.of p1
  obtain ⟨c2, b2⟩ := Calm.of q1
  obtain ⟨c3, b3⟩ := Calm.of r1
  have hr : Flo.Ab (Flo.W r - (S a * S c - S b * S d)) ((D + 2 * (K * Flo.u + Flo.et)) * Flo.u + Flo.et + 2 * (K * Flo.u + Flo.et)) := ((r3.add (p3.sub q3)).eq (by grind)).mono (by grind)
  obtain ⟨m1, m2, m3, m4⟩ := Flo.narrow_ok r r2 _ ((hD.add hr).eq (show _ = Flo.W r by grind)) (by grind)
  rw [← b1, ← b2] at c3 b3
  rw [← b3] at m1 m2 m3 m4 hr
  exact ⟨c1, c2, c3, m1, m2, m3, ((m4.add hr).eq (by grind)).mono s3⟩

/-- .. and the sum -/
theorem part_add (a c b d : Nat) (ha : Sm a) (hc : Sm c) (hb : Sm b) (hd : Sm d) (K D : Rat) (h1 : Flo.Ab (S a * S c) K) (h2 : Flo.Ab (S b * S d) K) (hD : Flo.Ab (S a * S c + S b * S d) D) (hK : K ≤ Flo.pw 120) (hDt : D ≤ Flo.pw 125) :
    PartOk .add a c b d (S a * S c + S b * S d) D K := by
  obtain ⟨na, va⟩ := wid_num ha
  obtain ⟨nc, vc⟩ := wid_num hc
  obtain ⟨nb, vb⟩ := wid_num hb
  obtain ⟨nd, vd⟩ := wid_num hd
  obtain ⟨ee, es1, o120, l0, l2, l3, l4, l5⟩ := small'
  obtain ⟨s0, s1, s2, s3⟩ := part_sum D K Flo.u Flo.v Flo.et Flo.es hD.nonneg h1.nonneg Flo.u_pos uv Flo.v_eq Flo.et_pos ee
  have e0 := Flo.et_pos
  obtain ⟨p, p1, p2, p3⟩ := Flo.d_mul (wid a) (wid c) na nc K (by rw [va, vc]; exact h1) (by grind)
  obtain ⟨q, q1, q2, q3⟩ := Flo.d_mul (wid b) (wid d) nb nd K (by rw [vb, vd]; exact h2) (by grind)
  rw [va, vc] at p3
  rw [vb, vd] at q3
  have hpq : Flo.Ab (Flo.W p + Flo.W q) (D + 2 * (K * Flo.u + Flo.et)) := ((hD.add (p3.add q3)).eq (by grind)).mono (by grind)
  obtain ⟨r, r1, r2, r3⟩ := Flo.d_add p q p2 q2 _ hpq (by grind)
  obtain ⟨c1, b1⟩ := Calm.of p1
  obtain ⟨c2, b2⟩ := Calm.of q1
  obtain ⟨c3, b3⟩ := Calm.of r1
  have hr : Flo.Ab (Flo.W r - (S a * S c + S b * S d)) ((D + 2 * (K * Flo.u + Flo.et)) * Flo.u + Flo.et + 2 * (K * Flo.u + Flo.et)) := ((r3.add (p3.add q3)).eq (by grind)).mono (by grind)
  obtain ⟨m1, m2, m3, m4⟩ := Flo.narrow_ok r r2 _ ((hD.add hr).eq (show _ = Flo.W r by grind)) (by grind)
  rw [← b1, ← b2] at c3 b3
  rw [← b3] at m1 m2 m3 m4 hr
  exact ⟨c1, c2, c3, m1, m2, m3, ((m4.add hr).eq (by grind)).mono s3⟩

/-! ### one step -/
def stepS (m : M4) (s : Nat × Nat) (x : Nat) : Nat × Nat :=
  (opB .add .f32 (mulSre s.1 s.2 m.pr m.pi) (opB .mul .f32 m.gr x), opB .add .f32 (mulSim s.1 s.2 m.pr m.pi) (opB .mul .f32 m.gi x))

structure StepOk (m : M4) (s : Nat × Nat) (x : Nat) : Prop where
  s1 : Sm s.1
  s2 : Sm s.2
  p1 : ∃ e D K, PartOk .sub s.1 m.pr s.2 m.pi e D K
  p2 : ∃ e D K, PartOk .add s.1 m.pi s.2 m.pr e D K
  c1 : Calm .mul .f32 m.gr x
  c2 : Calm .mul .f32 m.gi x
  c3 : Calm .add .f32 (mulSre s.1 s.2 m.pr m.pi) (opB .mul .f32 m.gr x)
  c4 : Calm .add .f32 (mulSim s.1 s.2 m.pr m.pi) (opB .mul .f32 m.gi x)

theorem M4.ok.nums {m : M4} (h : m.ok) : Sm m.pr ∧ Sm m.pi ∧ Sm m.gr ∧ Sm m.gi := by
  obtain ⟨h1, h2, h3, h4, -, -, -⟩ := Valid.parts h
  exact ⟨Sm_of h1, Sm_of h2, Sm_of h3, Sm_of h4⟩

/-- a valid pole's parts are at most 2 -/
theorem M4.ok.pole {m : M4} (h : m.ok) : Flo.Ab (S m.pr) 2 ∧ Flo.Ab (S m.pi) 2 := by
  have hs := Valid.square h
  have a := square_nonneg (S m.pr)
  have b := square_nonneg (S m.pi)
  have key : ∀ q : Rat, q * q ≤ 2 → Flo.Ab q 2 := by
    intro q hq
    constructor
    · rcases Rat.le_total (a := -2) (b := q) with g | g
      · exact g
      · have := Rat.mul_le_mul_of_nonneg_left g (show (0 : Rat) ≤ 2 by grind)
        have g2 := Rat.mul_nonneg (show 0 ≤ -2 - q by grind) (show 0 ≤ -2 - q by grind)
        grind
    · rcases Rat.le_total (a := q) (b := 2) with g | g
      · exact g
      · have g2 := Rat.mul_nonneg (show 0 ≤ q - 2 by grind) (show 0 ≤ q - 2 by grind)
        grind
  exact ⟨key _ (by grind), key _ (by grind)⟩

/-- the sums of the errors of one part, in plain numbers -/
theorem step_sum (D R H v es : Rat) (hD : 0 ≤ D) (hR : 0 ≤ R) (hH : 0 ≤ H) (ve : v * 16777216 = 1) (e0 : 0 < es) :
    (D + (D * v + (D + 2 * R) * v / 16777216 + 2 * es) + (H + (H * v + es))) * v + es + (D * v + (D + 2 * R) * v / 16777216 + 2 * es) + (H * v + es) ≤ (2 * D + 2 * H) * v + (D + R + H) * v / 1024 + 6 * es := by
  have hv : v = 1 / 16777216 := by grind
  subst hv
  grind

theorem part_step (p g x : Nat) (hp : Sm p) (hg : Sm g) (hx : Sm x) (e D R H : Rat) (hR : 0 ≤ R) (he : Flo.Ab e D) (hn : Flo.Ab (S p - e) (D * Flo.v + (D + 2 * R) * Flo.v / 16777216 + 2 * Flo.es)) (hH : Flo.Ab (S g * S x) H)
    (hRt : R ≤ Flo.pw 110) (hDt : D ≤ Flo.pw 112) (hHt : H ≤ Flo.pw 112) :
    Calm .mul .f32 g x ∧ Calm .add .f32 p (opB .mul .f32 g x) ∧ Sm (opB .add .f32 p (opB .mul .f32 g x)) ∧ Flo.Ab (S (opB .add .f32 p (opB .mul .f32 g x)) - (e + S g * S x)) ((2 * D + 2 * H) * Flo.v + (D + R + H) * Flo.v / 1024 + 6 * Flo.es) := by
  have l1 : Flo.pw 112 = 4 * Flo.pw 110 := by rw [show (112 : Int) = 2 + 110 from rfl, Flo.pw_add, show Flo.pw 2 = 4 from Flo.pw_nat 2]
  have l2 : Flo.pw 120 = 256 * Flo.pw 112 := by rw [show (120 : Int) = 8 + 112 from rfl, Flo.pw_add, show Flo.pw 8 = 256 from Flo.pw_nat 8]
  have l3 := Flo.pw_lt (a := 120) (b := 127) (by omega)
  have l4 : 1 ≤ Flo.pw 110 := by rw [← Flo.pw_zero]; exact Flo.pw_le (by omega)
  have es1 := small'.es1
  have es0 := Flo.es_pos
  have v0 := Flo.v_pos
  have ve := Flo.v_eq
  have hv : Flo.v = 1 / 16777216 := by grind
  have hD0 := he.nonneg
  have hH0 := hH.nonneg
  obtain ⟨g1, a1, a2, a3⟩ := Flo.s_mul g x hg hx H hH (by grind)
  obtain ⟨c1, b1⟩ := Calm.of a1
  have hs : Flo.Ab (S p + S g1) (D + (D * Flo.v + (D + 2 * R) * Flo.v / 16777216 + 2 * Flo.es) + (H + (H * Flo.v + Flo.es))) := ((he.add hn).add (hH.add a3)).eq (by grind)
  obtain ⟨r, r1, r2, r3⟩ := Flo.s_add p g1 hp a2 _ hs (by rw [hv]; grind)
  obtain ⟨c2, b2⟩ := Calm.of r1
  rw [← b1] at c2 b2 a3
  rw [← b1] at r3
  refine ⟨c1, c2, by rw [b2]; exact r2, ?_⟩
  rw [b2]
  exact (((r3.add hn).add a3).eq (by grind)).mono (step_sum D R H Flo.v Flo.es hD0 hR hH0 ve es0)

/-- ONE STEP OF A VALID MODE: nothing is drawn, and the new state is near the exact one. -/
theorem step_ok (m : M4) (hm : m.ok) (s : Nat × Nat) (x : Nat) (h1 : Sm s.1) (h2 : Sm s.2) (hx : Sm x) (R D H : Rat) (r1 : Flo.Ab (S s.1) R) (r2 : Flo.Ab (S s.2) R)
    (d1 : Flo.Ab (S s.1 * S m.pr - S s.2 * S m.pi) D) (d2 : Flo.Ab (S s.1 * S m.pi + S s.2 * S m.pr) D) (g1 : Flo.Ab (S m.gr * S x) H) (g2 : Flo.Ab (S m.gi * S x) H) (hRt : R ≤ Flo.pw 110) (hDt : D ≤ Flo.pw 112) (hHt : H ≤ Flo.pw 112) :
    StepOk m s x ∧ Sm (stepS m s x).1 ∧ Sm (stepS m s x).2 ∧
      Flo.Ab (S (stepS m s x).1 - (S s.1 * S m.pr - S s.2 * S m.pi + S m.gr * S x)) ((2 * D + 2 * H) * Flo.v + (D + R + H) * Flo.v / 1024 + 6 * Flo.es) ∧
      Flo.Ab (S (stepS m s x).2 - (S s.1 * S m.pi + S s.2 * S m.pr + S m.gi * S x)) ((2 * D + 2 * H) * Flo.v + (D + R + H) * Flo.v / 1024 + 6 * Flo.es) := by
  obtain ⟨n1, n2, n3, n4⟩ := hm.nums
  obtain ⟨q1, q2⟩ := hm.pole
  have hR0 := r1.nonneg
  have l1 : Flo.pw 120 = 1024 * Flo.pw 110 := by rw [show (120 : Int) = 10 + 110 from rfl, Flo.pw_add, show Flo.pw 10 = 1024 from Flo.pw_nat 10]
  have l2 := Flo.pw_lt (a := 112) (b := 125) (by omega)
  have l3 := Flo.pw_pos 110
  have k1 : Flo.Ab (S s.1 * S m.pr) (2 * R) := (r1.mul q1).mono (by grind)
  have k2 : Flo.Ab (S s.2 * S m.pi) (2 * R) := (r2.mul q2).mono (by grind)
  have k3 : Flo.Ab (S s.1 * S m.pi) (2 * R) := (r1.mul q2).mono (by grind)
  have k4 : Flo.Ab (S s.2 * S m.pr) (2 * R) := (r2.mul q1).mono (by grind)
  have P1 := part_sub s.1 m.pr s.2 m.pi h1 n1 h2 n2 (2 * R) D k1 k2 d1 (by grind) (by grind)
  have P2 := part_add s.1 m.pi s.2 m.pr h1 n2 h2 n1 (2 * R) D k3 k4 d2 (by grind) (by grind)
  obtain ⟨a1, a2, a3, a4⟩ := part_step _ m.gr x P1.num n3 hx _ D R H hR0 d1 P1.near g1 hRt hDt hHt
  obtain ⟨b1, b2, b3, b4⟩ := part_step _ m.gi x P2.num n4 hx _ D R H hR0 d2 P2.near g2 hRt hDt hHt
  exact ⟨⟨h1, h2, ⟨_, _, _, P1⟩, ⟨_, _, _, P2⟩, a1, b1, a2, b2⟩, a3, b3, a4, b4⟩

/-! ### the walks -/
end Go.Proofs.YtjmignhcfmdcaaaDoor
