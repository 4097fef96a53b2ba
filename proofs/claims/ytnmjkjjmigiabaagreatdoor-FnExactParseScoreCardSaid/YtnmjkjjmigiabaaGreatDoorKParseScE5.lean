/- Texts of a proof, put together: Traj, Unit, Half, IsBody, Clone, HalfW, HalfS, PdS, PdT, PdL, FmS, PsL, SplC, Lin, Damp, Fix, RooA, LpA, LpB, LpC.
   Conditions: those that each statement names. -/
import Derived.Test.YtnmjkjjmigiabaaGreatDoorKParseScE4
import Derived.Lib.SliceRun
import Derived.Laws.AppendOwn
import Derived.Lib.SplitLaws
import Derived.Lib.AtoiAll
import Derived.Deep.DeepCutAuto
/- Plain facts: how far the states of a mode that is stepped with small errors lie from those of the mode that is stepped exactly. No program stands in it.
   Conditions: those that each statement names. -/
namespace Go.Proofs.YtnmjkjjmigiabaaGreatDoor
set_option linter.unusedSimpArgs false
set_option linter.unusedVariables false
open Go

/-! ### sizes in the plane -/
def N (a b B : Rat) : Prop := 0 ≤ B ∧ a * a + b * b ≤ B * B
theorem le_of_sq {a B : Rat} (hB : 0 ≤ B) (h : a * a ≤ B * B) : a ≤ B := by
  rcases Rat.le_total (a := a) (b := B) with g | g
  · exact g
  · have h1 := Rat.mul_nonneg (show 0 ≤ a - B by grind) hB
    have h2 := Rat.mul_nonneg (show 0 ≤ a - B by grind) (show 0 ≤ a - B by grind)
    by_cases e : a = B
    · grind
    · have : 0 < a - B := by grind
      have h3 := Rat.mul_pos this this
      grind
theorem N.ab {a b B : Rat} (h : N a b B) : Flo.Ab a B ∧ Flo.Ab b B := by
  obtain ⟨h0, h1⟩ := h
  have ha := square_nonneg a
  have hb := square_nonneg b
  have k1 := le_of_sq h0 (show a * a ≤ B * B by grind)
  have k2 := le_of_sq h0 (show b * b ≤ B * B by grind)
  have k3 := le_of_sq (a := -a) h0 (by grind)
  have k4 := le_of_sq (a := -b) h0 (by grind)
  exact ⟨⟨by grind, k1⟩, ⟨by grind, k2⟩⟩
theorem N.zero : N 0 0 0 := ⟨by grind, by grind⟩
theorem N.mono {a b B C : Rat} (h : N a b B) (hC : B ≤ C) : N a b C := by
  obtain ⟨h0, h1⟩ := h
  refine ⟨by grind, ?_⟩
  have h2 := Rat.mul_le_mul_of_nonneg_left hC h0
  have h3 := Rat.mul_le_mul_of_nonneg_right hC (show 0 ≤ C by grind)
  grind
theorem N.eq {a b a' b' B : Rat} (h : N a b B) (h1 : a = a') (h2 : b = b') : N a' b' B := h1 ▸ h2 ▸ h
theorem N.add {a b c d B C : Rat} (h : N a b B) (g : N c d C) : N (a + c) (b + d) (B + C) := by
  obtain ⟨h0, h1⟩ := h
  obtain ⟨g0, g1⟩ := g
  refine ⟨by grind, ?_⟩
  have hBC := Rat.mul_nonneg h0 g0
  have k1 := Rat.mul_le_mul_of_nonneg_left g1 (show 0 ≤ a * a + b * b by have := square_nonneg a; have := square_nonneg b; grind)
  have k2 := Rat.mul_le_mul_of_nonneg_right h1 (square_nonneg C)
  have k3 := square_nonneg (a * d - b * c)
  have k4 := le_of_sq (a := a * c + b * d) hBC (by grind)
  grind
theorem N.mul {a b c d B T : Rat} (h : N a b B) (hT : 0 ≤ T) (g : c * c + d * d ≤ T * T) : N (a * c - b * d) (a * d + b * c) (B * T) := by
  obtain ⟨h0, h1⟩ := h
  refine ⟨Rat.mul_nonneg h0 hT, ?_⟩
  have k1 := Rat.mul_le_mul_of_nonneg_left g (show 0 ≤ a * a + b * b by have := square_nonneg a; have := square_nonneg b; grind)
  have k2 := Rat.mul_le_mul_of_nonneg_right h1 (square_nonneg T)
  grind
theorem N.parts {a b L : Rat} (h : Flo.Ab a L) (g : Flo.Ab b L) : N a b (3 / 2 * L) := by
  have hL := h.nonneg
  have h2 := h.mul h
  have g2 := g.mul g
  unfold Flo.Ab at h2 g2
  have := square_nonneg L
  exact ⟨by grind, by grind⟩
theorem N.gain (g h x : Rat) : N (g * x) (h * x) ((ra g + ra h) * ra x) := by
  have a := ra_nonneg g
  have b := ra_nonneg h
  have c := ra_nonneg x
  refine ⟨Rat.mul_nonneg (by grind) c, ?_⟩
  have e1 := ra_sq g
  have e2 := ra_sq h
  have e3 := ra_sq x
  have k := Rat.mul_nonneg (Rat.mul_nonneg a b) (square_nonneg (ra x))
  have : g * x * (g * x) + h * x * (h * x) = (ra g * ra g) * (ra x * ra x) + (ra h * ra h) * (ra x * ra x) := by rw [e1, e2, e3]; grind
  rw [this]
  grind

/-! ### trajectories -/
def psum (x : Nat → Rat) : Nat → Rat
  | 0 => 0
  | i + 1 => psum x i + ra (x i)
theorem psum_nonneg (x : Nat → Rat) : ∀ i, 0 ≤ psum x i
  | 0 => by simp [psum]
  | i + 1 => by have := psum_nonneg x i; have := ra_nonneg (x i); simp only [psum]; grind

/-- the states of a mode that is stepped exactly -/
def zt (c d g h : Rat) (x : Nat → Rat) : Nat → Rat × Rat
  | 0 => (0, 0)
  | i + 1 => ((zt c d g h x i).1 * c - (zt c d g h x i).2 * d + g * x i, (zt c d g h x i).1 * d + (zt c d g h x i).2 * c + h * x i)

theorem pole_T {c d : Rat} (hp : c * c + d * d ≤ 1 + 1 / 100000) : c * c + d * d ≤ (1 + 1 / 200000) * (1 + 1 / 200000) := by grind

/-- growth by at most one part in 200,000 a step -/
theorem grow (i : Nat) (hi : i < 2000) : (1 + (i : Rat) / 100000) * (1 + 1 / 200000) ≤ 1 + ((i + 1 : Nat) : Rat) / 100000 := by
  have h1 : (i : Rat) ≤ 2000 := by have : ((i : Nat) : Rat) ≤ ((2000 : Nat) : Rat) := by exact_mod_cast (by omega : i ≤ 2000)
                                   exact this
  have h2 : ((i + 1 : Nat) : Rat) = (i : Rat) + 1 := by exact_mod_cast rfl
  rw [h2]
  grind

theorem zt_N (c d g h : Rat) (x : Nat → Rat) (hp : c * c + d * d ≤ 1 + 1 / 100000) : ∀ i, i ≤ 2000 → N (zt c d g h x i).1 (zt c d g h x i).2 ((ra g + ra h) * psum x i * (1 + (i : Rat) / 100000))
  | 0, _ => by
    have : (ra g + ra h) * psum x 0 * (1 + ((0 : Nat) : Rat) / 100000) = 0 := by simp [psum]
    rw [this]; exact N.zero
  | i + 1, hi => by
    have ih := zt_N c d g h x hp i (by omega)
    have h1 := (ih.mul (show (0 : Rat) ≤ 1 + 1 / 200000 by grind) (pole_T hp)).add (N.gain g h (x i))
    refine (h1.eq rfl rfl).mono ?_
    have hG : 0 ≤ ra g + ra h := by have := ra_nonneg g; have := ra_nonneg h; grind
    have hP := psum_nonneg x i
    have hgr := grow i (by omega)
    have k1 := Rat.mul_le_mul_of_nonneg_left hgr (Rat.mul_nonneg hG hP)
    have hx := Rat.mul_nonneg hG (ra_nonneg (x i))
    have h2 : ((i + 1 : Nat) : Rat) = (i : Rat) + 1 := by exact_mod_cast rfl
    have hi0 : (0 : Rat) ≤ (i : Rat) := by exact_mod_cast Nat.zero_le i
    have k2 := Rat.mul_nonneg hx (show (0 : Rat) ≤ ((i : Rat) + 1) / 100000 by grind)
    rw [h2] at k1 ⊢
    simp only [psum]
    grind

/-- a mode that is stepped with errors of at most L in each part -/
theorem traj (c d g h : Rat) (x : Nat → Rat) (hp : c * c + d * d ≤ 1 + 1 / 100000) (s : Nat → Rat × Rat) (h0 : s 0 = (0, 0)) (X M L : Rat) (n : Nat) (hn : n ≤ 2000) (hL : 0 ≤ L)
    (hX : ∀ i, i ≤ n → psum x i ≤ X) (hM : 51 / 50 * ((ra g + ra h) * X + (n : Rat) * (3 / 2 * L)) ≤ M) (Q : Nat → Prop) (q0 : Q 0)
    (hstep : ∀ i, i < n → Q i → N (s i).1 (s i).2 M → Q (i + 1) ∧ Flo.Ab ((s (i + 1)).1 - ((s i).1 * c - (s i).2 * d + g * x i)) L ∧ Flo.Ab ((s (i + 1)).2 - ((s i).1 * d + (s i).2 * c + h * x i)) L) :
    ∀ i, i ≤ n → Q i ∧ N ((s i).1 - (zt c d g h x i).1) ((s i).2 - (zt c d g h x i).2) ((i : Rat) * (3 / 2 * L) * (1 + (i : Rat) / 100000)) ∧ N (s i).1 (s i).2 M := by
  have hG : 0 ≤ ra g + ra h := by have := ra_nonneg g; have := ra_nonneg h; grind
  have toM : ∀ i, i ≤ n → N ((s i).1 - (zt c d g h x i).1) ((s i).2 - (zt c d g h x i).2) ((i : Rat) * (3 / 2 * L) * (1 + (i : Rat) / 100000)) → N (s i).1 (s i).2 M := by
    intro i hi e
    have hz := zt_N c d g h x hp i (by omega)
    refine ((e.add hz).eq (by grind) (by grind)).mono ?_
    have hin : (i : Rat) ≤ (n : Rat) := by exact_mod_cast hi
    have hi2 : (i : Rat) ≤ 2000 := by
      have : ((i : Nat) : Rat) ≤ ((2000 : Nat) : Rat) := by exact_mod_cast (by omega : i ≤ 2000)
      exact this
    have hi0 : (0 : Rat) ≤ (i : Rat) := by exact_mod_cast Nat.zero_le i
    have f : 1 + (i : Rat) / 100000 ≤ 51 / 50 := by grind
    have a1 := Rat.mul_le_mul_of_nonneg_right hin (show 0 ≤ 3 / 2 * L by grind)
    have a2 := Rat.mul_nonneg hi0 (show 0 ≤ 3 / 2 * L by grind)
    have a3 := Rat.mul_le_mul_of_nonneg_left f a2
    have b1 := Rat.mul_le_mul_of_nonneg_left (hX i hi) hG
    have b2 := Rat.mul_nonneg hG (psum_nonneg x i)
    have b3 := Rat.mul_le_mul_of_nonneg_left f b2
    grind
  intro i
  induction i with
  | zero =>
    intro hi
    have e : N ((s 0).1 - (zt c d g h x 0).1) ((s 0).2 - (zt c d g h x 0).2) (((0 : Nat) : Rat) * (3 / 2 * L) * (1 + ((0 : Nat) : Rat) / 100000)) := by
      rw [h0]
      simp only [zt]
      have : ((0 : Nat) : Rat) * (3 / 2 * L) * (1 + ((0 : Nat) : Rat) / 100000) = 0 := by simp
      rw [this]
      exact N.zero.eq (by grind) (by grind)
    exact ⟨q0, e, toM 0 hi e⟩
  | succ i ih =>
    intro hi
    obtain ⟨q, e, hs⟩ := ih (by omega)
    obtain ⟨q', l1, l2⟩ := hstep i (by omega) q hs
    have e' : N ((s (i + 1)).1 - (zt c d g h x (i + 1)).1) ((s (i + 1)).2 - (zt c d g h x (i + 1)).2) (((i + 1 : Nat) : Rat) * (3 / 2 * L) * (1 + ((i + 1 : Nat) : Rat) / 100000)) := by
      have k := (e.mul (show (0 : Rat) ≤ 1 + 1 / 200000 by grind) (pole_T hp)).add (N.parts l1 l2)
      refine (k.eq ?_ ?_).mono ?_
      · simp only [zt]; grind
      · simp only [zt]; grind
      · have hgr := grow i (by omega)
        have hi0 : (0 : Rat) ≤ (i : Rat) := by exact_mod_cast Nat.zero_le i
        have a2 := Rat.mul_nonneg hi0 (show 0 ≤ 3 / 2 * L by grind)
        have a3 := Rat.mul_le_mul_of_nonneg_left hgr a2
        have h2 : ((i + 1 : Nat) : Rat) = (i : Rat) + 1 := by exact_mod_cast rfl
        have a4 := Rat.mul_nonneg (show 0 ≤ 3 / 2 * L by grind) (show (0 : Rat) ≤ ((i : Rat) + 1) / 100000 by grind)
        rw [h2] at a3 ⊢
        grind
    exact ⟨q', e', toM (i + 1) hi e'⟩

end Go.Proofs.YtnmjkjjmigiabaaGreatDoor

/- Plain facts: a number of moderate size, divided by its size, has a size near 1, and multiplied by its size it is near itself.
   Conditions: those that each statement names. No program stands in it. -/
namespace Go.Proofs.YtnmjkjjmigiabaaGreatDoor
set_option linter.unusedSimpArgs false
set_option linter.unusedVariables false
open Go

/-- the law's own test, where what is left is at most 340 units of 'u S' -/
theorem small_of (a b p q k d1 d2 s : Nat) (w1 w2 w3 w4 : World) (h1 : Moderate a b) (i1 : floatBits .sub .f64 p a = some d1) (j1 : floatBits .sub .f64 q b = some d2) (r1 : floatBits .add .f64 (labs d1) (labs d2) = some s) (r2 : Flo.Nm s)
    (hhigh : Flo.W s ≤ 340 * (Flo.u * (Flo.W (labs a) + Flo.W (labs b)))) (hk : Flo.Nm k) (hk44 : Flo.W k = Flo.pw (-((44 : Nat) : Int))) :
    (FloatKind.f64.format.order (fres w3 .add .f64 (labs (fres w1 .sub .f64 p a)) (labs (fres w2 .sub .f64 q b))) (fres w4 .mul .f64 (szd a b) k) == some .lt ||
      FloatKind.f64.format.order (fres w3 .add .f64 (labs (fres w1 .sub .f64 p a)) (labs (fres w2 .sub .f64 q b))) (fres w4 .mul .f64 (szd a b) k) == some .eq) = true := by
  obtain ⟨ax, bx, fa, fb, s1, s2, nla, nlb⟩ := h1
  have na := Nm_of_fin fa
  have nb := Nm_of_fin fb
  have u0 := Flo.u_pos
  have u1 := Flo.u_le
  have p201 := Flo.pw_pos (-201)
  generalize hS : Flo.W (labs a) + Flo.W (labs b) = S at *
  have hS0 : 0 ≤ S := by grind
  have huS0 := Rat.mul_nonneg (Rat.le_of_lt u0) hS0
  have huS : Flo.u * S ≤ S / 1048576 := by
    have := Rat.mul_le_mul_of_nonneg_right u1 hS0; grind
  have huuS : Flo.u * (Flo.u * S) ≤ (Flo.u * S) / 1048576 := by
    have := Rat.mul_le_mul_of_nonneg_right u1 huS0; grind
  have het : Flo.et ≤ Flo.u * (Flo.u * S) := by
    have k1 := Rat.mul_le_mul_of_nonneg_left s1 (Rat.le_of_lt u0)
    have k3 := Rat.mul_le_mul_of_nonneg_left k1 (Rat.le_of_lt u0)
    rw [show Flo.u = Flo.pw (-53) from rfl, ← Flo.pw_add, ← Flo.pw_add] at k3
    have k2 : Flo.pw (-1074) ≤ Flo.pw (-53 + (-53 + -201)) := Flo.pw_le (by omega)
    unfold Flo.et; rw [show Flo.u = Flo.pw (-53) from rfl]; grind
  have hbig : 32 * Flo.pw 201 < Flo.pw 1023 := by
    have e1 : Flo.pw 206 = 32 * Flo.pw 201 := by rw [show (206 : Int) = 5 + 201 from rfl, Flo.pw_add, show Flo.pw 5 = 32 from Flo.pw_nat 5]
    have e2 : Flo.pw 206 < Flo.pw 1023 := Flo.pw_lt (by omega)
    grind
  have et0 := Flo.et_pos
  -- the bound
  have hsz := szd_eq a b ax bx na nb
  obtain ⟨sz, o1, o2, o3⟩ := Flo.d_add (labs a) (labs b) nla nlb S ⟨by rw [hS]; grind, by rw [hS]; exact Rat.le_refl⟩ (by grind)
  rw [hsz] at o1
  simp only [Option.some.injEq] at o1
  rw [o1] at *
  rw [hS] at o3
  have e44 : Flo.W k = 512 * Flo.u := by
    rw [hk44, show (-((44 : Nat) : Int)) = 9 + -53 from rfl, Flo.pw_add, show Flo.pw 9 = 512 from Flo.pw_nat 9]; rfl
  have hkA : Flo.Ab (Flo.W k) (512 * Flo.u) := by rw [e44]; unfold Flo.Ab; grind
  have hszA : Flo.Ab (Flo.W sz) (2 * S) := ((o3.add (show Flo.Ab S S from ⟨by grind, by grind⟩)).eq (show Flo.W sz - S + S = Flo.W sz by grind)).mono (by grind)
  obtain ⟨k', t1, t2, t3⟩ := Flo.d_mul sz k o2 hk (2 * S * (512 * Flo.u)) (hszA.mul hkA) (by grind)
  have hlow : 500 * (Flo.u * S) ≤ Flo.W k' := by
    rw [e44] at t3
    have m1 : S - 2 * (Flo.u * S) ≤ Flo.W sz := by unfold Flo.Ab at o3; grind
    have m2 := Rat.mul_le_mul_of_nonneg_right m1 (show (0 : Rat) ≤ 512 * Flo.u by grind)
    unfold Flo.Ab at t3
    grind
  have fr1 : fres w1 .sub .f64 p a = d1 := by unfold fres; rw [i1]
  have fr2 : fres w2 .sub .f64 q b = d2 := by unfold fres; rw [j1]
  have fr3 : fres w3 .add .f64 (labs d1) (labs d2) = s := by unfold fres; rw [r1]
  have fr4 : fres w4 .mul .f64 sz k = k' := by unfold fres; rw [t1]
  rw [fr1, fr2, fr3, fr4, show FloatKind.f64.format = Ieee.double from rfl, Bool.or_eq_true, beq_iff_eq, beq_iff_eq]
  have o := Flo.order_num Ieee.double s k' r2 t2
  rw [o.1, o.2.1]
  show Flo.W s < Flo.W k' ∨ Flo.W s = Flo.W k'
  have : Flo.W s ≤ Flo.W k' := by grind
  grind


theorem labs_mod (x : Nat) (hx : x < 2 ^ 64) (h : Flo.Nm x) : x % signBit = labs x := by
  obtain ⟨s, m, p, hr⟩ := h
  have hm := mod_read x
  rw [show FloatKind.f64.decode x = _ from hr] at hm
  obtain ⟨n', j', l1, l2⟩ := labs_read hx hr
  have e : 2 * Ieee.double.signWeight = 2 ^ 64 := by decide
  have hl : labs x < 2 ^ 64 := by
    unfold labs
    split
    · unfold Op.negFloat
      exact Nat.xor_lt_two_pow hx (by decide)
    · split
      · decide
      · exact hx
  exact Flo.read_inj Ieee.double (show Ieee.double.read _ = _ from hm) l1 (by have := Nat.mod_le x signBit; omega) (by omega) l2.symm

/-- a number of moderate size by its size -/
theorem unit_quo (a b : Nat) (h : Moderate a b) : ∃ e f S, divD a b (szd a b) 0 = some (e, f) ∧ Flo.Nm e ∧ Flo.Nm f ∧ S = Flo.W (labs a) + Flo.W (labs b) ∧ S = ra (Flo.W a) + ra (Flo.W b) ∧ 0 < S ∧ S ≤ Flo.pw 201 ∧ Flo.et ≤ Flo.u * (Flo.u * S) ∧ Flo.Nm (szd a b) ∧
    Flo.Ab (Flo.W (szd a b) - S) (2 * (Flo.u * S)) ∧ Flo.Ab (Flo.W e * Flo.W (szd a b) - Flo.W a) (124 * (Flo.u * S)) ∧ Flo.Ab (Flo.W f * Flo.W (szd a b) - Flo.W b) (124 * (Flo.u * S)) ∧ Flo.Ab (Flo.W a) S ∧ Flo.Ab (Flo.W b) S := by
  obtain ⟨ax, bx, fa, fb, s1, s2, na', nb'⟩ := h
  have na := Nm_of_fin fa
  have nb := Nm_of_fin fb
  have hsz := szd_eq a b ax bx na nb
  have u0 := Flo.u_pos
  have u1 := Flo.u_le
  have et0 := Flo.et_pos
  have p201 := Flo.pw_pos (-201)
  have la := (labs_num a ax na).2
  have lb := (labs_num b bx nb).2
  have a0 := ra_nonneg (Flo.W a)
  have b0 := ra_nonneg (Flo.W b)
  have haS : Flo.Ab (Flo.W a) (Flo.W (labs a) + Flo.W (labs b)) := (ra_ab _).mono (by rw [la, lb]; grind)
  have hbS : Flo.Ab (Flo.W b) (Flo.W (labs a) + Flo.W (labs b)) := (ra_ab _).mono (by rw [la, lb]; grind)
  have hSe : Flo.W (labs a) + Flo.W (labs b) = ra (Flo.W a) + ra (Flo.W b) := by rw [la, lb]
  generalize hS : Flo.W (labs a) + Flo.W (labs b) = S at *
  have hS0 : 0 < S := by grind
  have huS0 := Rat.mul_nonneg (Rat.le_of_lt u0) (Rat.le_of_lt hS0)
  have huS : Flo.u * S ≤ S / 1048576 := by
    have := Rat.mul_le_mul_of_nonneg_right u1 (Rat.le_of_lt hS0); grind
  have huuS : Flo.u * (Flo.u * S) ≤ (Flo.u * S) / 1048576 := by
    have := Rat.mul_le_mul_of_nonneg_right u1 huS0; grind
  have het : Flo.et ≤ Flo.u * (Flo.u * S) := by
    have k1 := Rat.mul_le_mul_of_nonneg_left s1 (Rat.le_of_lt u0)
    have k3 := Rat.mul_le_mul_of_nonneg_left k1 (Rat.le_of_lt u0)
    rw [show Flo.u = Flo.pw (-53) from rfl, ← Flo.pw_add, ← Flo.pw_add] at k3
    have k2 : Flo.pw (-1074) ≤ Flo.pw (-53 + (-53 + -201)) := Flo.pw_le (by omega)
    unfold Flo.et; rw [show Flo.u = Flo.pw (-53) from rfl]; grind
  have het1 : Flo.et ≤ Flo.u / 2 := by
    have k2 : Flo.pw (-1074) ≤ Flo.pw (-54) := Flo.pw_le (by omega)
    have k3 : Flo.pw (-53) = 2 * Flo.pw (-54) := by rw [← Flo.pw_succ]; rfl
    unfold Flo.et; rw [show Flo.u = Flo.pw (-53) from rfl]; grind
  have hbig : 32 * Flo.pw 201 < Flo.pw 1022 := by
    have e1 : Flo.pw 206 = 32 * Flo.pw 201 := by rw [show (206 : Int) = 5 + 201 from rfl, Flo.pw_add, show Flo.pw 5 = 32 from Flo.pw_nat 5]
    have e2 : Flo.pw 206 < Flo.pw 1022 := Flo.pw_lt (by omega)
    grind
  have h32 : 32 < Flo.pw 1022 := by
    have e1 : Flo.pw 5 = 32 := Flo.pw_nat 5
    have e2 : Flo.pw 5 < Flo.pw 1022 := Flo.pw_lt (by omega)
    grind
  have h23 := Flo.pw_lt (a := 1022) (b := 1023) (by omega)
  obtain ⟨sz, o1, o2, o3⟩ := Flo.d_add (labs a) (labs b) na' nb' S ⟨by rw [hS]; grind, by rw [hS]; exact Rat.le_refl⟩ (by grind)
  rw [hsz] at o1
  simp only [Option.some.injEq] at o1
  rw [← o1, hS] at o3
  rw [← o1] at o2
  have o4 : Flo.Ab (Flo.W (szd a b) - S) (2 * (Flo.u * S)) := o3.mono (by grind)
  have hC : 0 < Flo.W (szd a b) := by unfold Flo.Ab at o4; grind
  have hCl : S / 2 ≤ Flo.W (szd a b) := by unfold Flo.Ab at o4; grind
  have hCh : Flo.W (szd a b) ≤ 2 * S := by unfold Flo.Ab at o4; grind
  have hT : S / Flo.W (szd a b) * Flo.W (szd a b) = S := by grind
  have hT2 : S / Flo.W (szd a b) ≤ 2 := by
    refine Rat.le_of_mul_le_mul_right (c := Flo.W (szd a b)) ?_ hC
    rw [hT]; grind
  have hT1 : 1 / 2 ≤ S / Flo.W (szd a b) := by
    refine Rat.le_of_mul_le_mul_right (c := Flo.W (szd a b)) ?_ hC
    rw [hT]; grind
  have z0 : Flo.W 0 = 0 := zero_num.2
  have hge : absGe (szd a b) 0 = true := (absGe_iff _ _ o2 zero_num.1).2 (by rw [z0]; have := ra_nonneg (Flo.W (szd a b)); unfold ra at *; grind)
  have kC := Rat.mul_le_mul_of_nonneg_left hCl (Rat.le_of_lt u0)
  have kT := Rat.mul_le_mul_of_nonneg_left hT1 (Rat.le_of_lt u0)
  obtain ⟨e, f, q1, q2, q3, q4, q5, q6, q7⟩ := Flo.quo_ge a b (szd a b) 0 na nb o2 zero_num.1 S (S / Flo.W (szd a b)) (Flo.W (szd a b)) (.inl rfl) hC (by grind) (by rw [z0]; unfold Flo.Ab; grind) haS hbS (by grind) hT (by grind) (by grind) (by grind) (by grind) hge
  rw [z0] at q6 q7
  refine ⟨e, f, S, divD_of_main a b _ 0 e f na nb o2 zero_num.1 q2 q3 ?_ q1, q2, q3, rfl, hSe, hS0, s2, het, o2, o4, q6.eq (by grind), q7.eq (by grind), haS, hbS⟩
  have := ra_nonneg (Flo.W 0)
  have : ra (Flo.W (szd a b)) = Flo.W (szd a b) := by unfold ra; rw [if_neg (by grind)]
  grind

/-- ITS SIZE IS NEAR 1 -/
theorem unit_size (a b e f : Nat) (h : Moderate a b) (hd : divD a b (szd a b) 0 = some (e, f)) (he : e < 2 ^ 64) (hf : f < 2 ^ 64) :
    ∃ d1 d2, floatBits .sub .f64 (szd e f) 4607182418800017408 = some d1 ∧ floatBits .sub .f64 4607182418800017408 (szd e f) = some d2 ∧ Flo.Nm d1 ∧ Flo.Nm d2 ∧ Flo.W d1 ≤ 300 * Flo.u ∧ Flo.W d2 ≤ 300 * Flo.u ∧ Flo.Nm e ∧ Flo.Nm f := by
  obtain ⟨e', f', S, hd', ne, nf, -, hSe, hS0, s2, het, nz, g0, g1, g2, haS, hbS⟩ := unit_quo a b h
  rw [hd] at hd'
  simp only [Option.some.injEq, Prod.mk.injEq] at hd'
  obtain ⟨rfl, rfl⟩ := hd'
  generalize Flo.W (szd a b) = C at *
  have u0 := Flo.u_pos
  have u1 := Flo.u_le
  have et0 := Flo.et_pos
  have huS0 := Rat.mul_nonneg (Rat.le_of_lt u0) (Rat.le_of_lt hS0)
  have huS : Flo.u * S ≤ S / 1048576 := by
    have := Rat.mul_le_mul_of_nonneg_right u1 (Rat.le_of_lt hS0); grind
  have huu : Flo.u * Flo.u ≤ Flo.u / 1048576 := by
    have := Rat.mul_le_mul_of_nonneg_right u1 (Rat.le_of_lt u0); grind
  have hC0 : 0 < C := by unfold Flo.Ab at g0; grind
  have hetu : Flo.et ≤ Flo.u * Flo.u := by
    have k2 : Flo.pw (-1074) ≤ Flo.pw (-53 + -53) := Flo.pw_le (by omega)
    rw [Flo.pw_add] at k2
    unfold Flo.et; rw [show Flo.u = Flo.pw (-53) from rfl]; grind
  have le := labs_num e he ne
  have lf := labs_num f hf nf
  have e0 := ra_nonneg (Flo.W e)
  have f0 := ra_nonneg (Flo.W f)
  have ram : ∀ q, ra q * C = ra (q * C) := by
    intro q
    unfold ra
    by_cases hq : q < 0
    · rw [if_pos hq, if_pos (by have := Rat.mul_pos (show 0 < -q by grind) hC0; grind)]; grind
    · rw [if_neg hq, if_neg (by have := Rat.mul_nonneg (show 0 ≤ q by grind) (Rat.le_of_lt hC0); grind)]
  have rad : ∀ x y B, Flo.Ab (x - y) B → Flo.Ab (ra x - ra y) B := by
    intro x y B hxy
    unfold Flo.Ab ra at *
    split <;> split <;> grind
  have k1 := rad _ _ _ g1
  have k2 := rad _ _ _ g2
  rw [← ram] at k1 k2
  have k3 : Flo.Ab ((ra (Flo.W e) + ra (Flo.W f) - 1) * C) (252 * Flo.u * C) := by
    have hb : 250 * (Flo.u * S) ≤ 252 * Flo.u * C := by
      unfold Flo.Ab at g0
      have := Rat.mul_le_mul_of_nonneg_left (show S - 2 * (Flo.u * S) ≤ C by grind) (show 0 ≤ 252 * Flo.u by grind)
      have k := Rat.mul_le_mul_of_nonneg_left huS (show 0 ≤ 504 * Flo.u by grind)
      grind
    exact ((((k1.add k2).add g0.neg).eq (by grind)).mono (by grind))
  have k4 := k3.div hC0 (Rat.le_refl (a := C))
  generalize hZ : ra (Flo.W e) + ra (Flo.W f) = Z at *
  have b1023 : 4 < Flo.pw 1023 := by
    have e1 : Flo.pw 2 = 4 := Flo.pw_nat 2
    have e2 : Flo.pw 2 < Flo.pw 1023 := Flo.pw_lt (by omega)
    grind
  have hZ2 : Flo.Ab Z 2 := by unfold Flo.Ab at *; grind
  obtain ⟨z, z1, z2, z3⟩ := Flo.d_add (labs e) (labs f) le.1 lf.1 2 (hZ2.eq (by rw [le.2, lf.2, hZ])) (by grind)
  have ez := szd_eq e f he hf ne nf
  rw [z1] at ez
  simp only [Option.some.injEq] at ez
  rw [le.2, lf.2, hZ] at z3
  rw [← ez]
  have o1 : Flo.W 4607182418800017408 = 1 := by have := one_num.2; rw [this]; exact Flo.pw_zero
  have z4 : Flo.Ab (Flo.W z - 1) (255 * Flo.u) := (((z3.add k4).eq (show Flo.W z - Z + (Z - 1) = Flo.W z - 1 by grind)).mono (by grind))
  obtain ⟨d1, a1, a2, a3⟩ := Flo.d_sub z 4607182418800017408 z2 one_num.1 (255 * Flo.u) (z4.eq (by rw [o1])) (by grind)
  obtain ⟨d2, c1, c2, c3⟩ := Flo.d_sub 4607182418800017408 z one_num.1 z2 (255 * Flo.u) (z4.neg.eq (by rw [o1]; grind)) (by grind)
  rw [o1] at a3 c3
  refine ⟨d1, d2, a1, c1, a2, c2, ?_, ?_, ne, nf⟩
  · unfold Flo.Ab at *; grind
  · unfold Flo.Ab at *; grind

/-- MULTIPLIED BY THE SIZE IT IS NEAR THE NUMBER -/
theorem unit_back (a b e f : Nat) (h : Moderate a b) (hd : divD a b (szd a b) 0 = some (e, f)) :
    ∃ p q d1 d2 s, floatBits .mul .f64 e (szd a b) = some p ∧ floatBits .mul .f64 f (szd a b) = some q ∧ floatBits .sub .f64 p a = some d1 ∧ floatBits .sub .f64 q b = some d2 ∧ floatBits .add .f64 (labs d1) (labs d2) = some s ∧ Flo.Nm s ∧
      Flo.W s ≤ 340 * (Flo.u * (Flo.W (labs a) + Flo.W (labs b))) := by
  obtain ⟨e', f', S, hd', ne, nf, hSl, hSe, hS0, s2, het, nz, g0, g1, g2, haS, hbS⟩ := unit_quo a b h
  rw [hd] at hd'
  simp only [Option.some.injEq, Prod.mk.injEq] at hd'
  obtain ⟨rfl, rfl⟩ := hd'
  obtain ⟨ax, bx, fa, fb, s1, -, nla, nlb⟩ := h
  have na := Nm_of_fin fa
  have nb := Nm_of_fin fb
  have u0 := Flo.u_pos
  have u1 := Flo.u_le
  have et0 := Flo.et_pos
  have huS0 := Rat.mul_nonneg (Rat.le_of_lt u0) (Rat.le_of_lt hS0)
  have huS : Flo.u * S ≤ S / 1048576 := by
    have := Rat.mul_le_mul_of_nonneg_right u1 (Rat.le_of_lt hS0); grind
  have huuS : Flo.u * (Flo.u * S) ≤ (Flo.u * S) / 1048576 := by
    have := Rat.mul_le_mul_of_nonneg_right u1 huS0; grind
  have hbig : 32 * Flo.pw 201 < Flo.pw 1023 := by
    have e1 : Flo.pw 206 = 32 * Flo.pw 201 := by rw [show (206 : Int) = 5 + 201 from rfl, Flo.pw_add, show Flo.pw 5 = 32 from Flo.pw_nat 5]
    have e2 : Flo.pw 206 < Flo.pw 1023 := Flo.pw_lt (by omega)
    grind
  have m1 : Flo.Ab (Flo.W e * Flo.W (szd a b)) (2 * S) := ((g1.add haS).eq (show _ = Flo.W e * Flo.W (szd a b) by grind)).mono (by grind)
  have m2 : Flo.Ab (Flo.W f * Flo.W (szd a b)) (2 * S) := ((g2.add hbS).eq (show _ = Flo.W f * Flo.W (szd a b) by grind)).mono (by grind)
  obtain ⟨p, p1, p2, p3⟩ := Flo.d_mul e (szd a b) ne nz (2 * S) m1 (by grind)
  obtain ⟨q, q1, q2, q3⟩ := Flo.d_mul f (szd a b) nf nz (2 * S) m2 (by grind)
  have p64 : p < 2 ^ 64 := by have := floatBits_wf p1; simpa [Lit.wf] using this
  have q64 : q < 2 ^ 64 := by have := floatBits_wf q1; simpa [Lit.wf] using this
  have P : Flo.Ab (Flo.W p - Flo.W a) (127 * (Flo.u * S)) := ((p3.add g1).eq (by grind)).mono (by grind)
  have Q : Flo.Ab (Flo.W q - Flo.W b) (127 * (Flo.u * S)) := ((q3.add g2).eq (by grind)).mono (by grind)
  obtain ⟨d1, i1, i2, i3, i4, i5, i6⟩ := rest_ok p a p2 na p64 S 127 (by grind) (by grind) P s2 het (Rat.le_of_lt hS0)
  obtain ⟨d2, j1, j2, j3, j4, j5, j6⟩ := rest_ok q b q2 nb q64 S 127 (by grind) (by grind) Q s2 het (Rat.le_of_lt hS0)
  obtain ⟨s, r1, r2, r3⟩ := Flo.d_add (labs d1) (labs d2) i4 j4 (256 * (Flo.u * S)) ⟨by grind, by grind⟩ (by grind)
  refine ⟨p, q, d1, d2, s, p1, q1, i1, j1, r1, r2, ?_⟩
  rw [← hSl]
  unfold Flo.Ab at r3
  grind

theorem fA_lt {op : BinOp} {a b : Option Nat} {e : Nat} (h : fA op .f64 a b = some e) : e < 2 ^ 64 := by
  cases a with
  | none => cases h
  | some a =>
    cases b with
    | none => cases h
    | some b =>
      have h' : floatBits op .f64 a b = some e := h
      have := floatBits_wf h'
      simpa [Lit.wf] using this
theorem divD_lt {a b c d e f : Nat} (h : divD a b c d = some (e, f)) : e < 2 ^ 64 ∧ f < 2 ^ 64 := by
  unfold divD at h
  split at h
  · split at h
    · rename_i e' f' hq
      split at h
      · simp only [Option.some.injEq, Prod.mk.injEq] at h
        obtain ⟨rfl, rfl⟩ := h
        unfold qA at hq
        split at hq
        · simp only [Prod.mk.injEq] at hq
          exact ⟨fA_lt hq.1, fA_lt hq.2⟩
        · simp only [Prod.mk.injEq] at hq
          exact ⟨fA_lt hq.1, fA_lt hq.2⟩
      · cases h
    · cases h
  · cases h
theorem le_of_W {a b : Nat} (ha : Flo.Nm a) (hb : Flo.Nm b) (h : Flo.W a ≤ Flo.W b) : (FloatKind.f64.format.order a b == some .lt || FloatKind.f64.format.order a b == some .eq) = true := by
  have o := Flo.order_num Ieee.double a b ha hb
  rw [show FloatKind.f64.format = Ieee.double from rfl, Bool.or_eq_true, beq_iff_eq, beq_iff_eq, o.1, o.2.1]
  show Flo.W a < Flo.W b ∨ Flo.W a = Flo.W b
  grind

end Go.Proofs.YtnmjkjjmigiabaaGreatDoor

/- HalfLife: the powers of a valid pole times the gain stay bounded; the walks, the program's and the model's.
   Conditions: those that each statement names. -/
namespace Go.Proofs.YtnmjkjjmigiabaaGreatDoor
set_option linter.unusedSimpArgs false
set_option linter.unusedVariables false
open Go Go.RowKit

def zH (m : M4) : Nat → Nat × Nat
  | 0 => (m.gr, m.gi)
  | n + 1 => (mulSre (zH m n).1 (zH m n).2 m.pr m.pi, mulSim (zH m n).1 (zH m n).2 m.pr m.pi)
theorem gain_le {m : M4} (h : m.ok) : ra (S m.gr) ≤ 1024 ∧ ra (S m.gi) ≤ 1024 := by
  obtain ⟨h1, h2, h3, h4, -, h6, h7⟩ := Valid.parts h
  have n1024 : Flo.Nm 4652218415073722368 ∧ Flo.W 4652218415073722368 = 1024 := by
    have h := Flo.int_double 1024 (by omega)
    rw [show floatOfInt .f64 1024 = 4652218415073722368 from by decide] at h
    exact h
  obtain ⟨a1, a2⟩ := wid_num (Sm_of h3)
  obtain ⟨b1, b2⟩ := wid_num (Sm_of h4)
  have la := labs_num _ (wid_lt m.gr) a1
  have lb := labs_num _ (wid_lt m.gi) b1
  have c1 := (leB_iff la.1 n1024.1).1 h6
  have c2 := (leB_iff lb.1 n1024.1).1 h7
  rw [la.2, a2, n1024.2] at c1
  rw [lb.2, b2, n1024.2] at c2
  exact ⟨c1, c2⟩
structure PartH (m : M4) (z : Nat × Nat) : Prop where
  p1 : ∃ e D K, PartOk .sub z.1 m.pr z.2 m.pi e D K
  p2 : ∃ e D K, PartOk .add z.1 m.pi z.2 m.pr e D K
  n1 : Sm (mulSre z.1 z.2 m.pr m.pi)
  n2 : Sm (mulSim z.1 z.2 m.pr m.pi)
  e1 : Flo.Ab (S (mulSre z.1 z.2 m.pr m.pi) - (S z.1 * S m.pr - S z.2 * S m.pi)) 1
  e2 : Flo.Ab (S (mulSim z.1 z.2 m.pr m.pi) - (S z.1 * S m.pi + S z.2 * S m.pr)) 1
theorem part_h (m : M4) (hm : m.ok) (z : Nat × Nat) (h1 : Sm z.1) (h2 : Sm z.2) (hN : N (S z.1) (S z.2) 6000) : PartH m z := by
  obtain ⟨n1, n2, n3, n4⟩ := hm.nums
  obtain ⟨q1, q2⟩ := hm.pole
  obtain ⟨r1, r2⟩ := hN.ab
  have l20 : (1000000 : Rat) ≤ Flo.pw 120 := by
    have e : Flo.pw 20 = 1048576 := Flo.pw_nat 20
    have l : Flo.pw 20 ≤ Flo.pw 120 := Flo.pw_le (by omega)
    grind
  have l25 : (1000000 : Rat) ≤ Flo.pw 125 := by
    have l : Flo.pw 120 ≤ Flo.pw 125 := Flo.pw_le (by omega)
    grind
  have k1 : Flo.Ab (S z.1 * S m.pr) 12000 := (r1.mul q1).mono (by grind)
  have k2 : Flo.Ab (S z.2 * S m.pi) 12000 := (r2.mul q2).mono (by grind)
  have k3 : Flo.Ab (S z.1 * S m.pi) 12000 := (r1.mul q2).mono (by grind)
  have k4 : Flo.Ab (S z.2 * S m.pr) 12000 := (r2.mul q1).mono (by grind)
  have P1 := part_sub z.1 m.pr z.2 m.pi h1 n1 h2 n2 12000 24000 k1 k2 ((k1.sub k2).mono (by grind)) (by grind) (by grind)
  have P2 := part_add z.1 m.pi z.2 m.pr h1 n2 h2 n1 12000 24000 k3 k4 ((k3.add k4).mono (by grind)) (by grind) (by grind)
  have ve := Flo.v_eq
  have es1 := small'.es1
  have hv : Flo.v = 1 / 16777216 := by grind
  exact ⟨⟨_, _, _, P1⟩, ⟨_, _, _, P2⟩, P1.num, P2.num, P1.near.mono (by rw [hv]; grind), P2.near.mono (by rw [hv]; grind)⟩

def sH (m : M4) : Nat → Rat × Rat
  | 0 => (0, 0)
  | i + 1 => (S (zH m i).1, S (zH m i).2)
def QH (m : M4) : Nat → Prop
  | 0 => True
  | i + 1 => Sm (zH m i).1 ∧ Sm (zH m i).2
def xH (i : Nat) : Rat := if i = 0 then 1 else 0
theorem psum_H : ∀ i, psum xH i ≤ 1
  | 0 => by simp [psum]; grind
  | 1 => by simp [psum, xH, ra]; grind
  | i + 2 => by
    have h := psum_H (i + 1)
    show psum xH (i + 1) + ra (xH (i + 1)) ≤ 1
    have : ra (xH (i + 1)) = 0 := by simp [xH, ra]
    rw [this]; grind
theorem zH_ok (m : M4) (hm : m.ok) : ∀ n, n ≤ 1999 → Sm (zH m n).1 ∧ Sm (zH m n).2 ∧ N (S (zH m n).1) (S (zH m n).2) 6000 := by
  intro n hn
  obtain ⟨g1, g2⟩ := gain_le hm
  obtain ⟨n1, n2, n3, n4⟩ := hm.nums
  have t := traj (S m.pr) (S m.pi) (S m.gr) (S m.gi) xH (Valid.square hm) (sH m) rfl 1 6000 1 2000 (Nat.le_refl _) (by grind) (fun i _ => psum_H i)
    (by have e : ((2000 : Nat) : Rat) = 2000 := rfl
        rw [e]; grind) (QH m) trivial (fun i hi hq hN => by
      cases i with
      | zero =>
        refine ⟨⟨n3, n4⟩, ?_, ?_⟩
        · show Flo.Ab (S m.gr - (0 * S m.pr - 0 * S m.pi + S m.gr * xH 0)) 1
          have : xH 0 = 1 := rfl
          rw [this]; unfold Flo.Ab; constructor <;> grind
        · show Flo.Ab (S m.gi - (0 * S m.pi + 0 * S m.pr + S m.gi * xH 0)) 1
          have : xH 0 = 1 := rfl
          rw [this]; unfold Flo.Ab; constructor <;> grind
      | succ j =>
        have P := part_h m hm (zH m j) hq.1 hq.2 hN
        have x0 : xH (j + 1) = 0 := by simp [xH]
        refine ⟨⟨P.n1, P.n2⟩, ?_, ?_⟩
        · exact P.e1.eq (by rw [x0]; show _ = S (mulSre (zH m j).1 (zH m j).2 m.pr m.pi) - (S (zH m j).1 * S m.pr - S (zH m j).2 * S m.pi + S m.gr * 0); grind)
        · exact P.e2.eq (by rw [x0]; show _ = S (mulSim (zH m j).1 (zH m j).2 m.pr m.pi) - (S (zH m j).1 * S m.pi + S (zH m j).2 * S m.pr + S m.gi * 0); grind))
  obtain ⟨q, -, h⟩ := t (n + 1) (by omega)
  exact ⟨q.1, q.2, h⟩
theorem zH_part (m : M4) (hm : m.ok) (n : Nat) (hn : n ≤ 1999) : PartH m (zH m n) := by
  obtain ⟨a, b, c⟩ := zH_ok m hm n hn
  exact part_h m hm _ a b c
theorem zH_num (m : M4) (hm : m.ok) : ∀ n, n ≤ 2000 → Sm (zH m n).1 ∧ Sm (zH m n).2
  | 0, _ => ⟨hm.nums.2.2.1, hm.nums.2.2.2⟩
  | n + 1, h => ⟨(zH_part m hm n (by omega)).n1, (zH_part m hm n (by omega)).n2⟩

/-! ### the test, and what the functions answer -/
def szH (z : Nat × Nat) : Nat := szd (wid z.1) (wid z.2)
def twH (z : Nat × Nat) : Nat := opB .mul .f64 4611686018427387904 (szH z)
def hitH (m : M4) (n : Nat) : Bool := leB (twH (zH m n)) (szH (m.gr, m.gi))
theorem sz_H {a b : Nat} (ha : Sm a) (hb : Sm b) : floatBits .add .f64 (labs (wid a)) (labs (wid b)) = some (szH (a, b)) ∧ floatBits .add .f64 (wid a % signBit) (wid b % signBit) = some (szH (a, b)) ∧ Calm .mul .f64 4611686018427387904 (szH (a, b)) := by
  have na := (wid_num ha).1
  have nb := (wid_num hb).1
  have h := szd_eq (wid a) (wid b) (wid_lt a) (wid_lt b) na nb
  have lm := labs_num _ (wid_lt a) na
  have ln := labs_num _ (wid_lt b) nb
  refine ⟨h, by rw [labs_mod _ (wid_lt a) na, labs_mod _ (wid_lt b) nb]; exact h, ?_⟩
  have aa := single_abs ha
  have bb := single_abs hb
  obtain ⟨r, r1, r2, -⟩ := Flo.d_add (labs (wid a)) (labs (wid b)) lm.1 ln.1 (2 * Flo.pw 128) (by
    rw [lm.2, ln.2, (wid_num ha).2, (wid_num hb).2]
    have := ra_le aa
    have := ra_le bb
    have := ra_nonneg (S a)
    have := ra_nonneg (S b)
    unfold Flo.Ab; constructor <;> grind) (by
    have e : Flo.pw 129 = 2 * Flo.pw 128 := by rw [← Flo.pw_succ]; rfl
    have l : Flo.pw 129 < Flo.pw 1023 := Flo.pw_lt (by omega)
    grind)
  rw [h] at r1
  injection r1 with r1
  have n2 : Flo.Nm 4611686018427387904 := ⟨_, _, _, Flo.read_two⟩
  obtain ⟨q, hq⟩ := mul_some n2 (show Flo.Nm (szH (a, b)) from by unfold szH; rw [r1]; exact r2)
  exact (Calm.of hq).1

def HalfR (m : M4) (most : Nat) (r : Int) (ok : Bool) : Prop :=
  (∃ n : Nat, ok = true ∧ r = (n : Int) ∧ 1 ≤ n ∧ n ≤ most ∧ hitH m n = true ∧ ∀ j, 1 ≤ j → j < n → hitH m j = false) ∨
  (ok = false ∧ (∀ j, 1 ≤ j → j ≤ most → hitH m j = false) ∧ r = 0)
def HalfP (m : M4) (most : Nat) (w : World) (e : Ending) (w' : World) : Prop := ∃ r ok, e = .returned (.tuple #[.int .i64 r, .bool ok]) ∧ HalfR m most r ok ∧ Nw w w'
def HalfI (m : M4) (most : Nat) (w : World) (z n : Value) (wr : World) : Prop :=
  ∃ k : Nat, k ≤ most ∧ n = .int .i64 ((k : Int) + 1) ∧ z = .complex .f32 (zH m k).1 (zH m k).2 ∧ (∀ j, 1 ≤ j → j ≤ k → hitH m j = false) ∧ Nw w wr ∧
    wr.cell? ⟨w.heap.size, 0, none⟩ = some (.complex .f32 m.pr m.pi) ∧ wr.cell? ⟨w.heap.size, 1, none⟩ = some (.complex .f32 m.gr m.gi)

end Go.Proofs.YtnmjkjjmigiabaaGreatDoor

/- The walks of the tests of modes and bodies whose parts are finite, the program's and the law's: both say what 'modeB' says.
   Conditions: those that each statement names. -/
namespace Go.Proofs.YtnmjkjjmigiabaaGreatDoor
set_option linter.unusedSimpArgs false
set_option linter.unusedVariables false
open Go Go.RowKit

set_option maxHeartbeats 1600000 in
theorem isModeOf_fin (pr pi gr gi : Nat) (w : World) (S1 : Sm pr) (S2 : Sm pi) (S3 : Sm gr) (S4 : Sm gi) :
    Calls Tryz.prog 137 #[.complex .f64 (wid pr) (wid pi), .complex .f64 (wid gr) (wid gi)] w fun e w' => e = .returned (.bool (modeB pr pi gr gi labs)) ∧ w = w' := by
  have hB : modeB pr pi gr gi labs = (leB (sqr (wid pr) (wid pi)) 4607182418800017408 && (leB (labs (wid gr)) 4652218415073722368 && leB (labs (wid gi)) 4652218415073722368)) := by
    unfold modeB
    rw [(fin_iff' .f32 pr).2 S1, (fin_iff' .f32 pi).2 S2, (fin_iff' .f32 gr).2 S3, (fin_iff' .f32 gi).2 S4]
    rfl
  rw [hB]
  clear hB
  obtain ⟨a, b, m1, m2, m3, -, -⟩ := sqr_num S1 S2
  have f1 : ∀ w, fres w .mul .f64 (wid pr) (wid pr) = a := fun w => by unfold fres; rw [m1]
  have f2 : ∀ w, fres w .mul .f64 (wid pi) (wid pi) = b := fun w => by unfold fres; rw [m2]
  have f3 : ∀ w, fres w .add .f64 a b = sqr (wid pr) (wid pi) := fun w => by unfold fres; rw [m3]
  have d1 : fdr .mul .f64 (wid pr) (wid pr) = 0 := by unfold fdr; rw [m1]; rfl
  have d2 : fdr .mul .f64 (wid pi) (wid pi) = 0 := by unfold fdr; rw [m2]; rfl
  have d3 : fdr .add .f64 a b = 0 := by unfold fdr; rw [m3]; rfl
  rw [← leB_abs (wid_lt _) (wid_num S3).1 num_1024, ← leB_abs (wid_lt _) (wid_num S4).1 num_1024]
  have W1 := fin_wid S1
  have W2 := fin_wid S2
  have W3 := fin_wid S3
  have W4 := fin_wid S4
  clear m1 m2 m3 S1 S2 S3 S4
  cases h5 : leB (sqr (wid pr) (wid pi)) 4607182418800017408 <;> cases h6 : leB (wid gr % signBit) 4652218415073722368 <;> cases h7 : leB (wid gi % signBit) 4652218415073722368
  all_goals
    unfold leB at h5 h6 h7
    go_enter Tryz.func137, Tryz.ntmps137
    go_wp2_with (first
      | (go_at_call 189; refine (implFinite_any _ _ _ (wid_lt _) (wid_lt _)).mono ?_; rintro e w' ⟨rfl, rfl⟩)
      | (go_at_call 50; refine (abs_any _ _ (wid_lt _)).mono ?_; rintro e w' ⟨rfl, rfl⟩))
    all_goals (go_ret; exact ⟨by simp [h5, h6, h7], rfl⟩)

theorem implIsMode_fin (pr pi gr gi : Nat) (w : World) (h1 : Sm pr) (h2 : Sm pi) (h3 : Sm gr) (h4 : Sm gi) :
    Calls Tryz.prog 131 #[.agg #[.complex .f32 pr pi, .complex .f32 gr gi]] w (TestP (modeB pr pi gr gi labs) w) := by
  have S1 := Lib.hid h1
  have S2 := Lib.hid h2
  have S3 := Lib.hid h3
  have S4 := Lib.hid h4
  clear h1 h2 h3 h4
  go_enter Tryz.func131, Tryz.ntmps131
  go_wp2_with fail
  go_quiet (first
    | (go_at_call 184; with_reducible exact quiet_eq (implWiden_fin _ _ _ S1.out S2.out))
    | (go_at_call 184; with_reducible exact quiet_eq (implWiden_fin _ _ _ S3.out S4.out))
    | (go_at_call 137; exact quiet_eq (isModeOf_fin _ _ _ _ _ S1.out S2.out S3.out S4.out)))
  go_wp2
  go_ret
  exact ⟨rfl, ((Nw.refl _).alloc _).draw _⟩

def M4.okB (m : M4) : Bool := modeB m.pr m.pi m.gr m.gi labs
def M4.Fin (m : M4) : Prop := Sm m.pr ∧ Sm m.pi ∧ Sm m.gr ∧ Sm m.gi
theorem M4.okB_iff (m : M4) : m.okB = true ↔ m.ok := Iff.rfl
def bodyB (ms : List M4) : Bool := decide (ms.length ≤ 16) && ms.all M4.okB
theorem bodyB_iff (ms : List M4) : bodyB ms = true ↔ ms.length ≤ 16 ∧ ∀ m ∈ ms, m.ok := by
  unfold bodyB
  rw [Bool.and_eq_true, decide_eq_true_iff, List.all_eq_true]
  exact Iff.rfl
theorem bodyB_bad {ms : List M4} {m : M4} (hm : m ∈ ms) (h : m.okB = false) : bodyB ms = false := by
  cases hb : bodyB ms
  · rfl
  · have := ((bodyB_iff ms).1 hb).2 m hm
    rw [← M4.okB_iff, h] at this
    cases this
theorem bodyB_all {ms : List M4} (hl : ms.length ≤ 16) (h : ∀ k : Nat, k < ms.length → ∀ m, ms[k]? = some m → m.okB = true) : bodyB ms = true := by
  rw [bodyB_iff]
  refine ⟨hl, fun m hm => ?_⟩
  obtain ⟨k, hk⟩ := List.getElem?_of_mem hm
  exact h k (List.getElem?_eq_some_iff.1 hk).1 m hk
theorem bodyB_long {ms : List M4} (h : 16 < ms.length) : bodyB ms = false := by
  unfold bodyB
  rw [decide_eq_false (by omega)]; rfl

def TestI (ms : List M4) (n : Nat) (w : World) (i : Value) (wr : World) : Prop := ∃ k : Nat, k ≤ n ∧ i = .int .i64 (k : Int) ∧ (∀ j : Nat, j < k → ∀ m, ms[j]? = some m → m.okB = true) ∧ Nw w wr

theorem implIsBody_fin (ms : List M4) (hms : ∀ m ∈ ms, m.Fin) (n bm : Nat) (v : Value) (hn : ms.length = n) (hn64 : n ≤ 64) (w : World)
    (hm : w.ownsRow bm 93 2 v n (cellsM ms)) :
    Calls Tryz.prog 62 #[.agg #[v]] w (TestP (bodyB ms) w) := by
  obtain ⟨va, vc, rfl⟩ := own_shape' hm
  have Hm := Lib.hid hm
  have Hms := Lib.hid hms
  have Hn := Lib.hid hn
  have Hn0 := Lib.hid ((Nw.refl w).alloc (.cells #[.slice va n vc] 38 (0, 0)))
  clear hm hms hn
  by_cases hn16 : n ≤ 16
  · go_enter Tryz.func62, Tryz.ntmps62
    go_wp2_with fail
    go_loopw [12] (fun i wr => TestI ms n w i wr) (fun i _ => n - (intOf i).toNat)
    case atStart => exact ⟨0, by omega, rfl, fun j hj => absurd hj (by omega), Hn0.out⟩
    case round =>
      obtain ⟨k, hk, rfl, hal, hnw⟩ := hrel
      have Hnw := Lib.hid hnw
      have Hal := Lib.hid hal
      clear hnw hal
      by_cases hlt : k < n
      · obtain ⟨m, hmk⟩ : ∃ m, ms[k]? = some m := ⟨ms[k]'(by rw [Hn.out]; exact hlt), List.getElem?_eq_getElem _⟩
        have Hmr := Lib.hid (own_nw Hm.out Hnw.out)
        obtain ⟨g, cap, hv, hcap, hmax, hgs, e1, e2⟩ := own_mode Hmr.out hmk Hn.out.symm
        cases hv
        have Hmo := Lib.hid (Hms.out m (List.mem_of_getElem? hmk))
        unfold maxLen at hmax
        have Hnw4 := Lib.hid (Hnw.out.alloc (.cells #[.complex .f32 m.pr m.pi, .complex .f32 m.gr m.gi] 93 (0, 0)))
        have Hmk := Lib.hid hmk
        clear hmk
        go_wp2_with fail
        refine (implIsMode_fin _ _ _ _ _ Hmo.out.1 Hmo.out.2.1 Hmo.out.2.2.1 Hmo.out.2.2.2).mono ?_
        rintro e w5 ⟨rfl, n5⟩
        have Hnw5 := Lib.hid (Hnw4.out.trans n5)
        clear n5 e1 e2
        cases hb : modeB m.pr m.pi m.gr m.gi labs with
        | false =>
          go_wp2_with fail
          go_ret
          exact ⟨by rw [bodyB_bad (List.mem_of_getElem? Hmk.out) hb]; first | done | rfl, Hnw5.out⟩
        | true =>
          go_wp2_with fail
          go_roundw
          case rel =>
            refine ⟨k + 1, by omega, by rw [show ((k + 1 : Nat) : Int) = (k : Int) + 1 from by omega], fun j hj m' hm' => ?_, Hnw5.out⟩
            by_cases hjk : j < k
            · exact Hal.out j hjk m' hm'
            · obtain rfl : j = k := by omega
              rw [Hmk.out] at hm'
              cases hm'
              exact hb
          case measure => simp only [intOf]; omega
      · go_wp2_with fail
        go_ret
        exact ⟨by rw [bodyB_all (by rw [Hn.out]; exact hn16) (fun j hj => Hal.out j (by have := Hn.out; omega))]; first | done | rfl, Hnw.out⟩
  · go_enter Tryz.func62, Tryz.ntmps62
    go_wp2_with fail
    go_ret
    exact ⟨by rw [bodyB_long (by rw [Hn.out]; omega)]; first | done | rfl, Hn0.out⟩

theorem specModes_fin (ms : List M4) (n bm : Nat) (v : Value) (hn : ms.length = n) (hn64 : n ≤ 64) (w : World)
    (hm : w.ownsRow bm 93 2 v n (cellsM ms)) :
    Calls Tryz.prog 138 #[v] w (TestP (bodyB ms) w) := by
  obtain ⟨va, vc, rfl⟩ := own_shape' hm
  have Hm := Lib.hid hm
  have Hn := Lib.hid hn
  clear hm hn
  go_enter Tryz.func138, Tryz.ntmps138
  go_wp2_with fail
  go_loopw [7] (fun i wr => TestI ms n w i wr) (fun i _ => n - (intOf i).toNat)
  case atStart => exact ⟨0, by omega, rfl, fun j hj => absurd hj (by omega), Nw.refl _⟩
  case round =>
    obtain ⟨k, hk, rfl, hal, hnw⟩ := hrel
    have Hnw := Lib.hid hnw
    have Hal := Lib.hid hal
    clear hnw hal
    by_cases hlt : k < n
    · obtain ⟨m, hmk⟩ : ∃ m, ms[k]? = some m := ⟨ms[k]'(by rw [Hn.out]; exact hlt), List.getElem?_eq_getElem _⟩
      have Hmr := Lib.hid (own_nw Hm.out Hnw.out)
      obtain ⟨g, cap, hv, hcap, hmax, hgs, e1, e2⟩ := own_mode Hmr.out hmk Hn.out.symm
      cases hv
      unfold maxLen at hmax
      have Hnw4 := Lib.hid (Hnw.out.alloc (.cells #[.complex .f32 m.pr m.pi, .complex .f32 m.gr m.gi] 93 (0, 0)))
      have Hmk := Lib.hid hmk
      clear hmk
      go_wp2_with fail
      refine (specMode_any _ _ _ _ _).mono ?_
      rintro e w5 ⟨rfl, n5⟩
      have Hnw5 := Lib.hid (Hnw4.out.trans n5)
      clear n5 e1 e2
      cases hb : modeB m.pr m.pi m.gr m.gi labs with
      | false =>
        go_wp2_with fail
        go_ret
        exact ⟨by rw [bodyB_bad (List.mem_of_getElem? Hmk.out) hb]; first | done | rfl, Hnw5.out⟩
      | true =>
        go_wp2_with fail
        go_roundw
        case rel =>
          refine ⟨k + 1, by omega, by rw [show ((k + 1 : Nat) : Int) = (k : Int) + 1 from by omega], fun j hj m' hm' => ?_, Hnw5.out⟩
          by_cases hjk : j < k
          · exact Hal.out j hjk m' hm'
          · obtain rfl : j = k := by omega
            rw [Hmk.out] at hm'
            cases hm'
            exact hb
        case measure => simp only [intOf]; omega
    · go_wp2_with fail
      go_ret
      refine ⟨?_, Hnw.out⟩
      by_cases hn16 : n ≤ 16
      · rw [bodyB_all (by rw [Hn.out]; exact hn16) (fun j hj => Hal.out j (by have := Hn.out; omega))]
        simp [hn16]
        first | done | omega
      · rw [bodyB_long (by rw [Hn.out]; omega)]
        simp [hn16]
        first | done | omega

theorem specIsBody_fin (ms : List M4) (n bm : Nat) (v : Value) (hn : ms.length = n) (hn64 : n ≤ 64) (w : World)
    (hm : w.ownsRow bm 93 2 v n (cellsM ms)) :
    Calls Tryz.prog 80 #[.agg #[v]] w (TestP (bodyB ms) w) := by
  obtain ⟨va, vc, rfl⟩ := own_shape' hm
  have Hm := Lib.hid (hm.alloc (.cells #[.slice va n vc] 38 (0, 0)))
  have Hn0 := Lib.hid ((Nw.refl w).alloc (.cells #[.slice va n vc] 38 (0, 0)))
  clear hm
  go_enter Tryz.func80, Tryz.ntmps80
  go_wp2_with fail
  refine (specModes_fin ms n bm _ hn hn64 _ Hm.out).mono ?_
  rintro e w1 ⟨rfl, n1⟩
  have Hn1 := Lib.hid (Hn0.out.trans n1)
  clear n1
  go_wp2
  go_ret
  exact ⟨rfl, Hn1.out⟩

end Go.Proofs.YtnmjkjjmigiabaaGreatDoor

/- The walks of slices.Clone over a body's modes.
   Conditions: those that each statement names. -/
namespace Go.Proofs.YtnmjkjjmigiabaaGreatDoor
set_option linter.unusedSimpArgs false
set_option linter.unusedVariables false
open Go Go.RowKit

theorem Nw.grown {a w w1 : World} {row : Option Nat} (h : Nw a w) (hg : w.grownBy w1 row) (hr : ∀ q, row = some q → a.heap.size ≤ q) : Nw a w1 :=
  ⟨hg.os.trans h.os, hg.tape.trans h.tape, hg.output.trans h.output, Nat.le_trans h.size hg.size, fun i hi hne => (hg.block i (Nat.lt_of_lt_of_le hi h.size) (fun e => by have := hr i e.symm; omega)).trans (h.block i hi hne)⟩

def RowP (ms : List M4) (w : World) (e : Ending) (w' : World) : Prop :=
  ∃ v : Value, e = .returned v ∧ w'.ownsRow w.heap.size 93 2 v ms.length (cellsM ms) ∧ Nw w w'

end Go.Proofs.YtnmjkjjmigiabaaGreatDoor

/- The walks of HalfLife, the program's and the model's, of a valid mode.
   Conditions: those that each statement names. -/
namespace Go.Proofs.YtnmjkjjmigiabaaGreatDoor
set_option linter.unusedSimpArgs false
set_option linter.unusedVariables false
open Go Go.RowKit

theorem half_no {m : M4} {most : Nat} (h : ∀ j, 1 ≤ j → j ≤ most → hitH m j = false) : HalfR m most 0 false := .inr ⟨rfl, h, rfl⟩

end Go.Proofs.YtnmjkjjmigiabaaGreatDoor

/- The walk of the model's HalfLife, of a valid mode.
   Conditions: those that each statement names. -/
namespace Go.Proofs.YtnmjkjjmigiabaaGreatDoor
set_option linter.unusedSimpArgs false
set_option linter.unusedVariables false
open Go Go.RowKit

theorem l1In_half (x a b : Int) (w : World) :
    Calls Tryz.prog 150 #[.int .i64 x, .int .i64 a, .int .i64 b] w fun e w' => e = .returned (.bool (decide (a ≤ x ∧ x ≤ b))) ∧ w = w' := by
  by_cases h1 : a ≤ x
  all_goals by_cases h2 : x ≤ b
  all_goals
    go_enter Tryz.func150, Tryz.ntmps150
    go_wp2
    go_ret
    exact ⟨by simp [h1, h2], rfl⟩
theorem run2 {P : Program} {x y : Nat} (h : Calm .mul .f64 x y) (t : TypeId) (w : World) : (binOp .mul t (.float .f64 x) (.float .f64 y)).run P w = .ok (.float .f64 (opB .mul .f64 x y)) w := by
  rw [run_fl_mul, h.res, h.fdr]; rfl

end Go.Proofs.YtnmjkjjmigiabaaGreatDoor

/- The model's ParseDouble, but for what its two loops keep.
   Conditions: those that each statement names. -/
namespace Go.Proofs.YtnmjkjjmigiabaaGreatDoor
set_option linter.unusedSimpArgs false
set_option linter.unusedVariables false
open Go Go.RowKit

theorem own_str {w : World} {base n k : Nat} {v : Value} {ps : List (List UInt8)} (h : w.ownsRow base 9 1 v n (cellsT ps)) {p : List UInt8} (hk : ps[k]? = some p) (hn : n = ps.length) :
    ∃ g cap, v = .slice (some ⟨g, 0, none⟩) n cap ∧ n ≤ cap ∧ cap ≤ maxLen ∧ g < w.heap.size ∧ w.cell? ⟨g, k, none⟩ = some (.string ⟨p.toArray⟩) := by
  have hkl := (List.getElem?_eq_some_iff.1 hk).1
  rcases h.2 with ⟨_, h0⟩ | ⟨g, cap, cur, rfl, hb, hg, hc, hm, hs, ht⟩
  · omega
  · have c1 := h.cellAt k (by omega)
    rw [show (cellsT ps)[k]? = some (.string ⟨p.toArray⟩) from by simp [cellsT, hk]] at c1
    exact ⟨g, cap, rfl, hc, hm, (h.lt g rfl).2, c1⟩

/-- what is read where the text is right -/
def ReadN (l : List UInt8) (n : Int) : Prop := ∀ sg a, a < 10 ^ 16 → (sg = true → a ≠ 0) → l = byts (sgn sg ++ dgs a) → n = if sg then -(a : Int) else (a : Int)
/-- the string is of the form of a text -/
def Form (l : List UInt8) : Prop := ∃ (sg : Bool) (a : Nat) (q : Int), a % 2 = 1 ∧ a < 9007199254740992 ∧ -1100 ≤ q ∧ q ≤ 1100 ∧ l = byts (sgn sg ++ (dgs a ++ 112 :: numL q))
def CoreP (s : ByteArray) (Good : Int → Nat → Prop) (w : World) (e : Ending) (w' : World) : Prop :=
  Nw w w' ∧ ((∃ x xs, Good 0 x ∧ TxtOf x xs ∧ s ≠ ⟨#[]⟩ ∧ ((strOfNums xs = s ∧ e = .returned (.tuple #[.float .f64 x, .bool true])) ∨ (strOfNums xs ≠ s ∧ e = .returned (.tuple #[.float .f64 0, .bool false])))) ∨ (e = .returned (.tuple #[.float .f64 0, .bool false]) ∧ ¬ Form s.data.toList))

theorem form_cut {sg : Bool} {a : Nat} {q : Int} : byts (sgn sg ++ (dgs a ++ 112 :: numL q)) = byts (sgn sg ++ dgs a) ++ 112 :: byts (numL q) := by
  unfold byts
  rw [← List.append_assoc, List.map_append]
  rfl
theorem no_p_post (q : Int) (h : q.natAbs < 10 ^ 17) : 112 ∉ byts (numL q) := by
  intro hm
  have : ∀ c ∈ byts (dgs q.natAbs), c ≠ 112 := pre_no_p false q.natAbs (by omega)
  unfold numL at hm
  split at hm
  · have e : byts (45 :: dgs q.natAbs) = 45 :: byts (dgs q.natAbs) := rfl
    rw [e] at hm
    rcases List.mem_cons.1 hm with h | h
    · exact absurd h (by decide)
    · exact this _ h rfl
  · exact this _ hm rfl
theorem form_split {l r : List UInt8} {ps : List (List UInt8)} (h : l = glue ps ++ r) (hps : ∀ p ∈ ps, 112 ∉ p) (hr : 112 ∉ r) (sg : Bool) (a : Nat) (q : Int) (ha : a < 10 ^ 16) (hq : q.natAbs < 10 ^ 16) (hl : l = byts (sgn sg ++ (dgs a ++ 112 :: numL q))) :
    ps = [byts (sgn sg ++ dgs a)] ∧ r = byts (numL q) :=
  split_unique h hps hr (hl.trans form_cut) (fun hm => pre_no_p sg a (by omega) _ hm rfl) (no_p_post q (by omega))

theorem num_sgn (q : Int) : numL q = sgn (decide (q < 0)) ++ dgs q.natAbs := by
  unfold numL sgn
  by_cases h : q < 0
  · rw [if_pos h, decide_eq_true h]; rfl
  · rw [if_neg h, decide_eq_false h]; rfl
theorem num_val (q : Int) : (if decide (q < 0) = true then -((q.natAbs : Nat) : Int) else ((q.natAbs : Nat) : Int)) = q := by
  by_cases h : q < 0
  · rw [if_pos (decide_eq_true h)]; omega
  · rw [if_neg (by simp [h])]; omega

set_option maxHeartbeats 6400000 in
set_option maxRecDepth 100000 in
theorem specCore (s : ByteArray) (hs : s.size ≤ 1048576) (g1 : (s.toList == [48]) = false) (g2 : (s.toList == [45, 48]) = false) (Good : Int → Nat → Prop)
    (hlt : ∀ e x, Good e x → x < 18446744073709551616)
    (hmul : ∀ e x w, Good e x → 0 < e → Good (e - 1) (fres w .mul .f64 x 4611686018427387904))
    (hquo : ∀ e x w, Good e x → e < 0 → Good (e + 1) (fres w .quo .f64 x 4611686018427387904))
    (hin : ∀ p r n1 n2, s.data.toList = p ++ 112 :: r → 112 ∉ p → 112 ∉ r → n1.natAbs < 100000000000000000 → ReadN p n1 → ReadN r n2 → -1100 ≤ n2 → n2 ≤ 1100 → Good n2 (floatOfInt .f64 n1))
    (w : World) : Calls Tryz.prog 142 #[.string s] w (CoreP s Good w) := by
  have hl : s.data.toList.length = s.size := Array.length_toList
  have HI := Lib.hid (And.intro hlt (And.intro hmul (And.intro hquo hin)))
  clear hlt hmul hquo hin
  go_enter Tryz.func142, Tryz.ntmps142
  go_wp2_with fail
  refine (l1Split_ok s hs _).mono ?_
  rintro e w1 ⟨ps, r, v, rfl, hsp, hps, hr, hown, n1⟩
  have N1 := Lib.hid n1
  have SP := Lib.hid (And.intro hsp (And.intro hps hr))
  clear n1 hps hr
  by_cases hlen : ps.length = 1
  · match ps, hlen with
    | [p], _ =>
      obtain ⟨g, cap, rfl, hc1, hc2, hg, cell0⟩ := own_str hown (k := 0) (p := p) rfl rfl
      obtain ⟨g', cap', e', -, -, -, cell1⟩ := own_str hown (k := 1) (p := r) rfl rfl
      cases e'
      have C1 := Lib.hid cell1
      have HG := Lib.hid hg
      have elen : glue [p] = p ++ [112] := by unfold glue; simp
      rw [elen] at hsp
      have lp : (⟨p.toArray⟩ : ByteArray).size ≤ 1048576 := by
        show p.toArray.size ≤ _
        rw [List.size_toArray]
        have := congrArg List.length hsp
        simp at this; omega
      have lr : (⟨r.toArray⟩ : ByteArray).size ≤ 1048576 := by
        show r.toArray.size ≤ _
        rw [List.size_toArray]
        have := congrArg List.length hsp
        simp at this; omega
      have hne : s ≠ ⟨#[]⟩ := by
        rintro rfl
        have := congrArg List.length hsp
        simp at this
      have HS := Lib.hid (And.intro hsp hne)
      clear hown hg hsp hne elen cell1
      go_wp2_with fail
      refine (l1Read_any _ lp _).mono ?_
      rintro e w2 ⟨n1, b1, rfl, hn1, hc1', nw2⟩
      have R1 := Lib.hid hc1'
      have N2 := Lib.hid (N1.out.trans nw2)
      have cell1 : w2.cell? ⟨g, 1, none⟩ = some (.string ⟨r.toArray⟩) := by rw [nw2.cell (p := ⟨g, 1, none⟩) HG.out]; exact C1.out
      clear hc1' nw2 cell0
      go_wp2_with fail
      refine (l1Read_any _ lr _).mono ?_
      rintro e w3 ⟨n2, b2, rfl, hn2, hc2', nw3⟩
      have R2 := Lib.hid hc2'
      have N3 := Lib.hid (N2.out.trans nw3)
      clear hc2' nw3 cell1
      have bad : (b1 = false ∨ b2 = false ∨ ¬ (-1100 ≤ n2 ∧ n2 ≤ 1100)) → ¬ Form s.data.toList := by
        rintro hb ⟨sg, a, q, h1, h2, h3, h4, h5⟩
        obtain ⟨e1, e2⟩ := form_split SP.out.1 SP.out.2.1 SP.out.2.2 sg a q (by omega) (by omega) h5
        have e1 : p = byts (sgn sg ++ dgs a) := by simpa using e1
        have k1 := R1.out sg a (by omega) (fun _ => by omega) e1
        have k2 := R2.out (decide (q < 0)) q.natAbs (by omega) (fun h => (by have h' : q < 0 := (by simpa using h); omega)) (by show r = _; rw [e2, num_sgn q])
        rw [num_val] at k2
        rcases hb with hb | hb | hb
        · rw [k1.1] at hb; cases hb
        · rw [k2.1] at hb; cases hb
        · exact hb ⟨by omega, by omega⟩
      have BAD := Lib.hid bad
      clear bad
      have out : (b1 = false ∨ b2 = false ∨ ¬ (-1100 ≤ n2 ∧ n2 ≤ 1100)) → ∀ w', Nw w w' → CoreP s Good w (.returned (.tuple #[.float .f64 0, .bool false])) w' := fun h w' hn => ⟨hn, .inr ⟨rfl, BAD.out h⟩⟩
      have OUT := Lib.hid out
      clear out
      cases b1 with
      | false =>
        go_wp2_with fail
        all_goals
          go_ret2
          exact OUT.out (by simp) _ N3.out
      | true =>
        cases b2 with
        | false =>
          go_wp2_with fail
          all_goals
            go_ret2
            exact OUT.out (by simp) _ N3.out
        | true =>
          by_cases hrg : -1100 ≤ n2 ∧ n2 ≤ 1100
          · have Gd := Lib.hid (HI.out.2.2.2 p r n1 n2 (by rw [HS.out.1]; simp) (SP.out.2.1 p List.mem_cons_self) SP.out.2.2 hn1 (fun sg a ha h0 he => (R1.out sg a ha h0 he).2) (fun sg a ha h0 he => (R2.out sg a ha h0 he).2) hrg.1 hrg.2)
            go_wp2_with (go_at_call 150; refine (l1In_half _ _ _ _).mono ?_; rintro e w' ⟨rfl, rfl⟩; rw [decide_eq_true hrg])
            go_loopw [7, 9] (fun e x wr => ∃ (i : Int) (y : Nat), e = .int .i64 i ∧ x = .float .f64 y ∧ Good i y ∧ i ≤ 1100 ∧ -1100 ≤ i ∧ Nw w wr) (fun e _ _ => (intOf e).toNat)
            case atStart => exact ⟨n2, _, rfl, rfl, Gd.out, hrg.2, hrg.1, N3.out⟩
            case round =>
              obtain ⟨i, y, rfl, rfl, hgi, hi1, hi2, hN⟩ := hrel
              have G := Lib.hid hgi
              have Nr := Lib.hid hN
              clear hgi hN
              by_cases hpos : 0 < i
              · go_wp2_with fail
                go_roundw
                case rel => exact ⟨i - 1, _, rfl, rfl, HI.out.2.1 _ _ _ G.out hpos, by omega, by omega, Nr.out.draw _⟩
                case measure => simp only [intOf]; omega
              · go_wp2_with fail
                go_loopw [7, 9] (fun e x wr => ∃ (i : Int) (y : Nat), e = .int .i64 i ∧ x = .float .f64 y ∧ Good i y ∧ i ≤ 0 ∧ -1100 ≤ i ∧ Nw w wr) (fun e _ _ => (-(intOf e)).toNat)
                case atStart => exact ⟨i, y, rfl, rfl, G.out, by omega, by omega, Nr.out⟩
                case round =>
                  obtain ⟨i, y, rfl, rfl, hgi, hi1, hi2, hN⟩ := hrel
                  have G := Lib.hid hgi
                  have Nr := Lib.hid hN
                  clear hgi hN
                  by_cases hneg : i < 0
                  · go_wp2_with fail
                    go_roundw
                    case rel => exact ⟨i + 1, _, rfl, rfl, HI.out.2.2.1 _ _ _ G.out hneg, by omega, by omega, Nr.out.draw _⟩
                    case measure => simp only [intOf]; omega
                  · obtain rfl : i = 0 := by omega
                    have T := Lib.hid (specText y (HI.out.1 _ _ G.out))
                    go_wp2_with fail
                    refine (T.out _).mono ?_
                    rintro e w5 ⟨xs, rfl, t5, n5⟩
                    have N5 := Lib.hid (Nr.out.trans n5)
                    have T5 := Lib.hid t5
                    clear n5 t5
                    by_cases hx : strOfNums xs = s
                    · have R : CoreP s Good w (.returned (.tuple #[.float .f64 y, .bool true])) w5 := ⟨N5.out, .inl ⟨y, xs, G.out, T5.out, HS.out.2, .inl ⟨hx, rfl⟩⟩⟩
                      have RR := Lib.hid R
                      clear R
                      subst hx
                      go_wp2_with fail
                      all_goals
                        go_ret2
                        exact RR.out
                    · have R : CoreP s Good w (.returned (.tuple #[.float .f64 0, .bool false])) w5 := ⟨N5.out, .inl ⟨y, xs, G.out, T5.out, HS.out.2, .inr ⟨hx, rfl⟩⟩⟩
                      have RR := Lib.hid R
                      clear R
                      have g : ((strOfNums xs).toList == s.toList) = false := by
                        cases hq : ((strOfNums xs).toList == s.toList) with
                        | false => rfl
                        | true =>
                          exfalso
                          apply hx
                          have h2 : (strOfNums xs).toList = s.toList := by simpa using hq
                          rw [ByteArray.toList_eq, ByteArray.toList_eq] at h2
                          apply ByteArray.ext
                          exact Array.toList_inj.1 h2
                      clear hx
                      go_wp2_with fail
                      all_goals
                        go_ret2
                        exact RR.out
          · go_wp2_with (go_at_call 150; refine (l1In_half _ _ _ _).mono ?_; rintro e w' ⟨rfl, rfl⟩; rw [decide_eq_false hrg])
            all_goals
              go_ret2
              exact OUT.out (.inr (.inr hrg)) _ N3.out
  · have hbad : ¬ Form s.data.toList := by
      rintro ⟨sg, a, q, h1, h2, h3, h4, h5⟩
      obtain ⟨e1, -⟩ := form_split SP.out.1 SP.out.2.1 SP.out.2.2 sg a q (by omega) (by omega) h5
      rw [e1] at hlen
      simp at hlen
    have B := Lib.hid (show CoreP s Good w (.returned (.tuple #[.float .f64 0, .bool false])) w1 from ⟨N1.out, .inr ⟨rfl, hbad⟩⟩)
    obtain ⟨sa, sl, sc, rfl⟩ := own_shape hown
    obtain ⟨va, vc, e0⟩ := own_shape' hown
    cases e0
    have hne : (((ps.length + 1 : Nat) : Int) != 2) = true := by simp; omega
    clear hbad hown hsp
    go_wp2_with fail
    all_goals
      go_ret2
      exact B.out
end Go.Proofs.YtnmjkjjmigiabaaGreatDoor

/- The model's ParseDouble: where the string is the text of a finite double, that double and true; else 0 and false. The law FnExactParseDouble as a call.
   Conditions: those that each statement names. -/
namespace Go.Proofs.YtnmjkjjmigiabaaGreatDoor
set_option linter.unusedSimpArgs false
set_option linter.unusedVariables false
open Go Go.RowKit

theorem minus_ok (w : World) : Calls Tryz.prog 191 #[] w fun e w' => e = .returned (.float .f64 9223372036854775808) ∧ w = w' := by
  have e : Op.negFloat .f64 0 = 9223372036854775808 := by decide
  go_enter Tryz.func191, Tryz.ntmps191
  go_wp2_with fail
  go_ret
  exact ⟨by first | rfl | (rw [e]; rfl), rfl⟩

theorem spec_zero (s : ByteArray) (y : Nat) (hs : (y = 0 ∧ s = ⟨#[48]⟩) ∨ (y = 9223372036854775808 ∧ s = ⟨#[45, 48]⟩)) (w : World) :
    Calls Tryz.prog 142 #[.string s] w fun e w' => e = .returned (.tuple #[.float .f64 y, .bool true]) ∧ Nw w w' := by
  rcases hs with ⟨rfl, rfl⟩ | ⟨rfl, rfl⟩
  · have g1 : ((⟨#[48]⟩ : ByteArray).toList == [48]) = true := by rw [ByteArray.toList_eq]; rfl
    go_enter Tryz.func142, Tryz.ntmps142
    go_wp2_with fail
    go_ret2
    exact ⟨rfl, Nw.refl _⟩
  · have g1 : ((⟨#[45, 48]⟩ : ByteArray).toList == [48]) = false := by rw [ByteArray.toList_eq]; rfl
    have g2 : ((⟨#[45, 48]⟩ : ByteArray).toList == [45, 48]) = true := by rw [ByteArray.toList_eq]; rfl
    go_enter Tryz.func142, Tryz.ntmps142
    go_wp2_with fail
    refine (minus_ok _).mono ?_
    rintro e w1 ⟨rfl, rfl⟩
    go_wp2_with fail
    go_ret2
    exact ⟨rfl, Nw.refl _⟩

theorem exp_bounds {y m a : Nat} {sg : Bool} {p q : Int} (ry : Ieee.double.read y = .number sg m p) (ha : a % 2 = 1) (hv : (a : Rat) * Flo.pw q = (m : Rat) * Flo.pw p) : -1074 ≤ q ∧ q ≤ 1023 ∧ (a : Rat) * Flo.pw q < Flo.pw 1024 := by
  obtain ⟨b1, b2, b3⟩ := Flo.read_bound Ieee.double (by decide) y sg m p ry
  rw [Flo.lp_double] at b2
  have hmax := num_le_max y sg m p ry
  have h24 : ((9007199254740991 : Nat) : Rat) * Flo.pw 971 < Flo.pw 1024 := by
    have e : Flo.pw 1024 = ((9007199254740992 : Nat) : Rat) * Flo.pw 971 := by
      rw [show (1024 : Int) = 971 + (53 : Nat) from by omega, Flo.pw_add, Flo.pw_nat, show ((2 ^ 53 : Nat) : Rat) = ((9007199254740992 : Nat) : Rat) from rfl]; grind
    rw [e]
    exact Rat.mul_lt_mul_of_pos_right (by decide) (Flo.pw_pos 971)
  have hlt : (a : Rat) * Flo.pw q < Flo.pw 1024 := by rw [hv]; grind
  refine ⟨?_, ?_, hlt⟩
  · rcases Int.lt_or_le q p with g | g
    · exfalso
      obtain ⟨d, hd⟩ := Int.eq_ofNat_of_zero_le (show 0 ≤ p - q - 1 by omega)
      have e : p = q + ((d + 1 : Nat) : Int) := by omega
      rw [e, Flo.pw_add, Flo.pw_nat] at hv
      have p0 := Flo.pw_pos q
      have h2 : (a : Rat) = (m : Rat) * ((2 ^ (d + 1) : Nat) : Rat) := by
        have := Rat.mul_inv_cancel (Flo.pw q) (by grind)
        have k : (a : Rat) * Flo.pw q * (Flo.pw q)⁻¹ = (m : Rat) * (Flo.pw q * ((2 ^ (d + 1) : Nat) : Rat)) * (Flo.pw q)⁻¹ := by rw [hv]
        grind
      have h3 : a = m * 2 ^ (d + 1) := by exact_mod_cast h2
      rw [Nat.pow_succ, ← Nat.mul_assoc] at h3
      omega
    · omega
  · have a1 : (1 : Rat) ≤ (a : Rat) := by exact_mod_cast (show 1 ≤ a by omega)
    have := Rat.mul_le_mul_of_nonneg_right a1 (Rat.le_of_lt (Flo.pw_pos q))
    have k : Flo.pw q < Flo.pw 1024 := by grind
    have := Flo.lt_of_pw_lt k
    omega

theorem not_zero_text (sg : Bool) (a : Nat) (q : Int) (ha : a < 10 ^ 17) (hq : -2000 ≤ q ∧ q ≤ 2000) :
    ((strOfNums (sgn sg ++ (dgs a ++ 112 :: numL q))).toList == [48]) = false ∧ ((strOfNums (sgn sg ++ (dgs a ++ 112 :: numL q))).toList == [45, 48]) = false ∧ (strOfNums (sgn sg ++ (dgs a ++ 112 :: numL q))).size ≤ 60 := by
  have tl := text_len sg a q ha hq
  have sz : (strOfNums (sgn sg ++ (dgs a ++ 112 :: numL q))).size = (sgn sg ++ (dgs a ++ 112 :: numL q)).length := strOfNums_size _
  refine ⟨str_ne (by
    intro h; rw [h] at sz; have : (⟨#[48]⟩ : ByteArray).size = 1 := rfl; rw [show ([48] : List UInt8).toArray = #[48] from rfl] at sz; omega), str_ne (by
    intro h; rw [h] at sz; have : (⟨#[45, 48]⟩ : ByteArray).size = 2 := rfl; rw [show ([45, 48] : List UInt8).toArray = #[45, 48] from rfl] at sz; omega), by omega⟩

/-- the two numbers of a text -/
theorem text_nums {sg : Bool} {a : Nat} {q : Int} (ha : a % 2 = 1) (ha16 : a < 10 ^ 16) (hq : q.natAbs < 10 ^ 16) {p r : List UInt8} {n1 n2 : Int} (h : byts (sgn sg ++ (dgs a ++ 112 :: numL q)) = p ++ 112 :: r) (hp : 112 ∉ p) (r1 : ReadN p n1) (r2 : ReadN r n2) :
    n1 = (if sg then -(a : Int) else (a : Int)) ∧ n2 = q := by
  obtain ⟨rfl, rfl⟩ := cut_unique (h.symm.trans form_cut) hp (fun hm => pre_no_p sg a (by omega) _ hm rfl)
  have k1 := r1 sg a ha16 (fun _ => by omega) rfl
  have k2 := r2 (decide (q < 0)) q.natAbs hq (fun h => (by have h' : q < 0 := (by simpa using h); omega)) (by rw [← num_sgn q])
  rw [num_val] at k2
  exact ⟨k1, k2⟩

theorem same_double {x y mx my : Nat} {sg : Bool} {px py : Int} (hx : x < 18446744073709551616) (hy : y < 18446744073709551616) (rx : Ieee.double.read x = .number sg mx px) (ry : Ieee.double.read y = .number sg my py) (h : (mx : Rat) * Flo.pw px = (my : Rat) * Flo.pw py) : x = y :=
  Flo.read_inj Ieee.double rx ry hx hy h

theorem word_lt (s E F : Nat) (hs : s < 2) (hE : E < 2047) (hF : F < 4503599627370496) : s * 9223372036854775808 + (E * 4503599627370496 + F) < 18446744073709551616 := by omega
theorem specParse_text (sg : Bool) (a : Nat) (q : Int) (ha : a % 2 = 1) (ha53 : a < 9007199254740992) (y my : Nat) (py : Int) (hy : y < 18446744073709551616) (ry : Ieee.double.read y = .number sg my py) (hmy : my ≠ 0) (hv : (a : Rat) * Flo.pw q = (my : Rat) * Flo.pw py) (hq : -2000 ≤ q ∧ q ≤ 2000) (w : World) :
    Calls Tryz.prog 142 #[.string (strOfNums (sgn sg ++ (dgs a ++ 112 :: numL q)))] w fun e w' => e = .returned (.tuple #[.float .f64 y, .bool true]) ∧ Nw w w' := by
  obtain ⟨b1, b2, b3⟩ := exp_bounds ry ha hv
  obtain ⟨z1, z2, z3⟩ := not_zero_text sg a q (by omega) hq
  have ht : TxtOf y (sgn sg ++ (dgs a ++ 112 :: numL q)) := .inr (.inr (.inr ⟨sg, my, py, a, q, ry, hmy, ha, ha53, hv, hq.1, hq.2, rfl⟩))
  obtain ⟨v, hv0⟩ : ∃ v : Int, v = if sg then -(a : Int) else (a : Int) := ⟨_, rfl⟩
  have vn : v.natAbs = a := by rw [hv0]; cases sg <;> simp
  have vs : decide (v < 0) = sg := by rw [hv0]; cases sg <;> simp <;> omega
  obtain ⟨mx, px, rf, vf⟩ := float_exact v (by omega)
  rw [vs] at rf
  rw [vn] at vf
  have key : ∃ Good : Int → Nat → Prop, (∀ e x, Good e x → x < 18446744073709551616) ∧
      (∀ e x w, Good e x → 0 < e → Good (e - 1) (fres w .mul .f64 x 4611686018427387904)) ∧
      (∀ e x w, Good e x → e < 0 → Good (e + 1) (fres w .quo .f64 x 4611686018427387904)) ∧ Good q (floatOfInt .f64 v) ∧ ∀ x, Good 0 x → x = y := by
    by_cases hq0 : q < 0
    · refine ⟨fun e x => q ≤ e ∧ e ≤ 0 ∧ x < 18446744073709551616 ∧ ∃ m' p', Ieee.double.read x = .number sg m' p' ∧ (m' : Rat) * Flo.pw p' = (a : Rat) * Flo.pw (q - e), fun e x h => h.2.2.1, fun e x w h hpos => absurd h.2.1 (by omega), ?_, ?_, ?_⟩
      · rintro e x w ⟨h1, h2, h3, m', p', h4, h5⟩ hneg
        obtain ⟨z, m2, p2, k1, k2, k3, k4⟩ := half_sg x m' a sg p' (q - e) h4 h5 (by omega) ha53 (by omega) (by omega)
        have e1 : fres w .quo .f64 x 4611686018427387904 = z := by unfold fres; rw [k1]
        rw [e1]
        exact ⟨by omega, by omega, k2, m2, p2, k3, by rw [k4]; congr 2; omega⟩
      · exact ⟨Int.le_refl _, by omega, float_int_lt v, mx, px, rf, by rw [vf, Int.sub_self, Flo.pw_zero]; grind⟩
      · rintro x ⟨h1, h2, h3, m', p', h4, h5⟩
        exact same_double h3 hy h4 ry (by rw [h5, ← hv]; congr 2; omega)
    · obtain ⟨s, hs, hsg, hc⟩ := word_cases _ mx sg px (float_int_lt v) rf
      have a1 : (1 : Rat) ≤ (a : Rat) := by exact_mod_cast (show 1 ≤ a by omega)
      rcases hc with ⟨hx1, hm2, hp⟩ | ⟨E0, F, hx1, k1, k2, k3, k4, k5⟩
      · exfalso
        rw [hp] at vf
        have h1 : (mx : Rat) < 4503599627370496 := by exact_mod_cast hm2
        have h2 := Rat.mul_lt_mul_of_pos_right h1 (Flo.pw_pos (-1074))
        have h4 : 4503599627370496 * Flo.pw (-1074) = Flo.pw (-1022) := by
          rw [show (-1022 : Int) = -1074 + (52 : Nat) from by omega, Flo.pw_add, Flo.pw_nat]
          rw [show ((2 ^ 52 : Nat) : Rat) = 4503599627370496 from rfl]; grind
        have h5 := Flo.pw_le (show (-1022 : Int) ≤ 0 by omega)
        rw [Flo.pw_zero] at h5
        grind
      · have HX := Lib.hid hx1
        clear hx1 z3
        rw [k4, k5] at vf
        clear k4
        have vq : ((4503599627370496 + F : Nat) : Rat) * Flo.pw ((E0 : Int) - 1075 + q) = (a : Rat) * Flo.pw q := by rw [Flo.pw_add, ← Rat.mul_assoc, vf]
        have hE : (E0 : Int) + q ≤ 2046 := by
          have f2 : (4503599627370496 : Rat) ≤ ((4503599627370496 + F : Nat) : Rat) := by exact_mod_cast Nat.le_add_right _ F
          have g2 := Rat.mul_le_mul_of_nonneg_right f2 (Rat.le_of_lt (Flo.pw_pos ((E0 : Int) - 1075 + q)))
          have p52 : (4503599627370496 : Rat) * Flo.pw ((E0 : Int) - 1075 + q) = Flo.pw ((E0 : Int) - 1075 + q + (52 : Nat)) := by rw [Flo.pw_add ((E0 : Int) - 1075 + q), Flo.pw_nat, show ((2 ^ 52 : Nat) : Rat) = 4503599627370496 from rfl]; grind
          rw [p52, vq] at g2
          have k : Flo.pw ((E0 : Int) - 1075 + q + (52 : Nat)) < Flo.pw 1024 := by grind
          have := Flo.lt_of_pw_lt k
          omega
        refine ⟨fun e x => 0 ≤ e ∧ e ≤ q ∧ ∃ E : Nat, x = s * 9223372036854775808 + (E * 4503599627370496 + F) ∧ (E : Int) = E0 + (q - e), ?_, ?_, fun e x w h hneg => absurd h.1 (by omega), ?_, ?_⟩
        · rintro e x ⟨h1, h2, E, rfl, h3⟩
          exact word_lt s E F hs (by omega) k3
        · rintro e x w ⟨h1, h2, E, hxe, h3⟩ hpos
          obtain ⟨Z, hZ⟩ : ∃ Z : Nat, Z = s * 9223372036854775808 + ((E + 1) * 4503599627370496 + F) := ⟨_, rfl⟩
          have t := two_mul_word s E F hs (by clear hxe hZ; omega) (by clear hxe hZ; omega) k3
          rw [← hxe, ← hZ] at t
          have e1 : fres w .mul .f64 x 4611686018427387904 = Z := by unfold fres; rw [t]
          rw [e1]
          exact ⟨by clear hxe hZ; omega, by clear hxe hZ; omega, E + 1, hZ, by clear hxe hZ; omega⟩
        · exact ⟨by omega, Int.le_refl _, E0, HX.out, by omega⟩
        · rintro x ⟨h1, h2, E, rfl, h3⟩
          have r := read_nor s E F hs (by omega) (by omega) k3
          rw [← hsg] at r
          exact same_double (word_lt s E F hs (by omega) k3) hy r ry (by rw [← hv, ← vq]; congr 2; omega)
  obtain ⟨Good, q1, q2, q3, q4, q5⟩ := key
  refine (specCore _ (by omega) z1 z2 Good q1 q2 q3 ?_ w).mono ?_
  · intro p r n1 n2 hsp hp hr hn1 r1 r2 _ _
    obtain ⟨rfl, rfl⟩ := text_nums ha (by omega) (by omega) hsp hp r1 r2
    rw [← hv0]
    exact q4
  · rintro e w' ⟨hn, ⟨x, xs, hg, hx, hne, hres⟩ | ⟨rfl, hbad⟩⟩
    · obtain rfl := q5 x hg
      obtain rfl := txt_unique hx ht
      rcases hres with ⟨-, rfl⟩ | ⟨h, -⟩
      · exact ⟨rfl, hn⟩
      · exact absurd rfl h
    · exact absurd ⟨sg, a, q, ha, ha53, by omega, by omega, rfl⟩ hbad

theorem specParse_yes (s : ByteArray) (y : Nat) (h : IsTxt s y) (w : World) :
    Calls Tryz.prog 142 #[.string s] w fun e w' => e = .returned (.tuple #[.float .f64 y, .bool true]) ∧ Nw w w' := by
  obtain ⟨hy, hf, xs, ht, rfl⟩ := h
  rcases ht with ⟨h, _⟩ | ⟨rfl, rfl⟩ | ⟨rfl, rfl⟩ | ⟨sg, m, p, a, q, b1, b2, b3, b4, b5, b6, b7, rfl⟩
  · rw [hf] at h; cases h
  · exact spec_zero _ _ (.inl ⟨rfl, rfl⟩) w
  · exact spec_zero _ _ (.inr ⟨rfl, rfl⟩) w
  · exact specParse_text sg a q b3 b4 y m p hy b1 b2 b5 ⟨b6, b7⟩ w

theorem specParse_no (s : ByteArray) (hs : s.size ≤ 1048576) (h : ∀ y, ¬ IsTxt s y) (w : World) :
    Calls Tryz.prog 142 #[.string s] w fun e w' => e = .returned (.tuple #[.float .f64 0, .bool false]) ∧ Nw w w' := by
  have h1 : s ≠ ⟨#[48]⟩ := by rintro rfl; exact h 0 ⟨by decide, by decide, [48], .inr (.inl ⟨rfl, rfl⟩), rfl⟩
  have h2 : s ≠ ⟨#[45, 48]⟩ := by rintro rfl; exact h 9223372036854775808 ⟨by decide, by decide, [45, 48], .inr (.inr (.inl ⟨rfl, rfl⟩)), rfl⟩
  refine (specCore s hs (str_ne h1) (str_ne h2) (fun _ x => x < 18446744073709551616) (fun _ _ h => h) (fun _ x w _ _ => fres_wf w .mul .f64 x _) (fun _ x w _ _ => fres_wf w .quo .f64 x _) (fun _ _ n1 _ _ _ _ _ _ _ _ _ => float_int_lt n1) w).mono ?_
  rintro e w' ⟨hn, ⟨x, xs, hg, hx, hne, hres⟩ | ⟨rfl, -⟩⟩
  · rcases hres with ⟨rfl, -⟩ | ⟨-, rfl⟩
    · exfalso
      rcases Bool.eq_false_or_eq_true (fin .f64 x) with hf | hf
      · exact h x ⟨hg, hf, xs, hx, rfl⟩
      · have : xs = [] := by
          rcases hx with ⟨_, rfl⟩ | ⟨rfl, _⟩ | ⟨rfl, _⟩ | ⟨sg, m, p, a, q, b1, _⟩
          · rfl
          · exact absurd hf (by decide)
          · exact absurd hf (by decide)
          · rw [fin_num ⟨_, _, _, b1⟩] at hf; cases hf
        subst this
        exact hne rfl
    · exact ⟨rfl, hn⟩
  · exact ⟨rfl, hn⟩
end Go.Proofs.YtnmjkjjmigiabaaGreatDoor

/- The law FnExactParseDouble as a call.
   Conditions: those that each statement names. -/
namespace Go.Proofs.YtnmjkjjmigiabaaGreatDoor
set_option linter.unusedSimpArgs false
set_option linter.unusedVariables false
open Go Go.RowKit

end Go.Proofs.YtnmjkjjmigiabaaGreatDoor

/- The law FnExactFormatSingle as a call.
   Conditions: those that each statement names. -/
namespace Go.Proofs.YtnmjkjjmigiabaaGreatDoor
set_option linter.unusedSimpArgs false
set_option linter.unusedVariables false
open Go Go.RowKit

theorem nan_fin64 {y : Nat} (h : nan64 y = true) : fin .f64 y = false := by
  unfold nan64 at h
  unfold fin
  cases hd : FloatKind.f64.decode y <;> rw [hd] at h <;> simp_all [Ieee.Datum.isNaN]

/-- the texts of a number of single precision, however its NaN is widened -/
theorem txt_wide {x : Nat} {w1 w2 : World} {xs ys : List Int} (h1 : TxtOf (fcv w1 .f32 x .f64) xs) (h2 : TxtOf (fcv w2 .f32 x .f64) ys) : xs = ys := by
  cases hn : nan32 x with
  | false =>
    rw [fcv_wide hn] at h1 h2
    exact txt_unique h1 h2
  | true =>
    have g1 := nan_fin64 (nan_wide hn w1)
    have g2 := nan_fin64 (nan_wide hn w2)
    have key : ∀ {y : Nat} {zs : List Int}, fin .f64 y = false → TxtOf y zs → zs = [] := by
      intro y zs hf ht
      have f0 : fin .f64 0 = true := by decide
      have f1 : fin .f64 9223372036854775808 = true := by decide
      rcases ht with ⟨_, rfl⟩ | ⟨rfl, rfl⟩ | ⟨rfl, rfl⟩ | ⟨sg, m, p, a, q, b1, b2, _⟩
      · rfl
      · rw [f0] at hf; simp at hf
      · rw [f1] at hf; simp at hf
      · rw [fin_num ⟨_, _, _, b1⟩] at hf; simp at hf
    rw [key g1 h1, key g2 h2]

def TxtS (x : Nat) (w : World) (e : Ending) (w' : World) : Prop := ∃ xs w1, e = .returned (.string (strOfNums xs)) ∧ TxtOf (fcv w1 .f32 x .f64) xs ∧ Nw w w'

set_option maxRecDepth 100000 in
theorem specTextS (x : Nat) (hx : x < 4294967296) (w : World) : Calls Tryz.prog 76 #[.float .f32 x] w (TxtS x w) := by
  have hx2 : ∀ w, fcv w .f32 x .f64 < 18446744073709551616 := fun w => fcv_wf w .f32 x .f64 hx
  go_enter Tryz.func76, Tryz.ntmps76
  go_wp2_with fail
  refine (specText _ (hx2 _) _).mono ?_
  rintro e w1 ⟨xs, rfl, t1, n1⟩
  have N1 := Lib.hid (((Nw.refl w).draw _).trans n1)
  have T1 := Lib.hid t1
  clear n1 t1
  go_wp2_with fail
  go_ret
  exact ⟨xs, _, rfl, T1.out, N1.out⟩

set_option maxRecDepth 100000 in
theorem implTextS (x : Nat) (hx : x < 4294967296) (w : World) (hT : TabAt 1 Lib.deBruijn64tab w) (ht : Lib.TabIs Tryz.prog w "internal/strconv.uint64pow10" .u64 Lib.pow10Tab) : Calls Tryz.prog 13 #[.float .f32 x] w (TxtS x w) := by
  have hx2 : ∀ w, fcv w .f32 x .f64 < 18446744073709551616 := fun w => fcv_wf w .f32 x .f64 hx
  have T := Lib.hid (And.intro hT ht)
  clear hT ht
  go_enter Tryz.func13, Tryz.ntmps13
  go_wp2_with fail
  refine (implText _ (hx2 _) _ (tabAt_nw ((Nw.refl w).draw _) (tabAt_lt T.out.1) T.out.1) (tab_nw ((Nw.refl w).draw _) T.out.2)).mono ?_
  rintro e w1 ⟨xs, rfl, t1, n1⟩
  have N1 := Lib.hid (((Nw.refl w).draw _).trans n1)
  have T1 := Lib.hid t1
  clear n1 t1
  go_wp2_with fail
  go_ret
  exact ⟨xs, _, rfl, T1.out, N1.out⟩

end Go.Proofs.YtnmjkjjmigiabaaGreatDoor

/- The law FnExactParseSingle as a call.
   Conditions: those that each statement names. -/
namespace Go.Proofs.YtnmjkjjmigiabaaGreatDoor
set_option linter.unusedSimpArgs false
set_option linter.unusedVariables false
open Go Go.RowKit

/-- a number of single precision, widened and narrowed, is the same -/
theorem nar_back {r : Nat} (hr : r < 4294967296) (h : Sm r) : (∀ w, fcv w .f64 (wid r) .f32 = r) ∧ fcd .f64 (wid r) .f32 = 0 := by
  obtain ⟨s, m, i, hx⟩ := h
  obtain ⟨n, j, hz, he⟩ := wid_read hx
  obtain ⟨h1, h2, h3⟩ := single_bound hx
  have e1 : Ieee.single.leastPlace = -149 := by decide
  have e2 : (2 ^ Ieee.single.exponentBits : Nat) = 256 := by decide
  obtain ⟨m', p', w1, w4⟩ := Flo.write_exact_top Ieee.single (by decide) s n j m i he (Nat.lt_of_lt_of_le h1 (by decide)) (by omega) (by omega)
  have hd : FloatKind.f64.decode (wid r) = .number s n j := hz
  have hr2 : FloatKind.f32.decode (FloatKind.f32.encode (.number s n j)) = .number s m' p' := w1
  have eq : FloatKind.f32.encode (.number s n j) = r := Flo.read_inj Ieee.single w1 hx (Ieee.Format.write_lt _ _) hr (by rw [w4, he])
  constructor
  · intro w
    unfold fcv
    rw [if_neg (by decide), hd]
    simp only
    rw [hr2]
    simp only [Ieee.Datum.isInfinity, Bool.false_eq_true, if_false]
    exact eq
  · unfold fcd
    rw [if_neg (by decide), hd]
    simp only
    rw [hr2]
    simp [Ieee.Datum.isInfinity]

/-- a double that single precision has -/
def Rep (y : Nat) : Prop := ∃ r, r < 4294967296 ∧ Sm r ∧ wid r = y

theorem txt_form {x : Nat} {xs : List Int} (hf : fin .f64 x = true) (h : TxtOf x xs) : (x = 0 ∧ xs = [48]) ∨ (x = 9223372036854775808 ∧ xs = [45, 48]) ∨ ∃ (sg : Bool) (m : Nat) (p : Int) (a : Nat) (q : Int), Ieee.double.read x = .number sg m p ∧ m ≠ 0 ∧ a % 2 = 1 ∧ a < 9007199254740992 ∧ (a : Rat) * Flo.pw q = (m : Rat) * Flo.pw p ∧ -2000 ≤ q ∧ q ≤ 2000 ∧ xs = sgn sg ++ (dgs a ++ 112 :: numL q) := by
  rcases h with ⟨h, _⟩ | h | h | h
  · rw [hf] at h; cases h
  · exact .inl h
  · exact .inr (.inl h)
  · exact .inr (.inr h)

/-- a text belongs to one double -/
theorem txt_inj {x y : Nat} {xs ys : List Int} (hx : x < 18446744073709551616) (hy : y < 18446744073709551616) (fy : fin .f64 y = true) (tx : TxtOf x xs) (ty : TxtOf y ys) (h : strOfNums xs = strOfNums ys) : x = y := by
  have hb : byts xs = byts ys := by rw [← byts_str, ← byts_str, h]
  have hl : xs.length = ys.length := by have := congrArg List.length hb; unfold byts at this; simpa using this
  have fx : fin .f64 x = true := by
    rcases Bool.eq_false_or_eq_true (fin .f64 x) with hf | hf
    · exact hf
    · exfalso
      have e : xs = [] := by
        rcases tx with ⟨_, rfl⟩ | ⟨rfl, _⟩ | ⟨rfl, _⟩ | ⟨sg, m, p, a, q, b1, _⟩
        · rfl
        · exact absurd hf (by decide)
        · exact absurd hf (by decide)
        · rw [fin_num ⟨_, _, _, b1⟩] at hf; cases hf
      subst e
      rcases txt_form fy ty with ⟨_, rfl⟩ | ⟨_, rfl⟩ | ⟨sg, m, p, a, q, b1, b2, b3, b4, b5, b6, b7, rfl⟩
      · simp at hl
      · simp at hl
      · have := (text_len sg a q (by omega) ⟨b6, b7⟩).1
        rw [← hl] at this
        simp at this
  rcases txt_form fx tx with ⟨rfl, rfl⟩ | ⟨rfl, rfl⟩ | ⟨sg, m, p, a, q, b1, b2, b3, b4, b5, b6, b7, rfl⟩
  · rcases txt_form fy ty with ⟨rfl, rfl⟩ | ⟨rfl, rfl⟩ | ⟨sg, m, p, a, q, b1, b2, b3, b4, b5, b6, b7, rfl⟩
    · rfl
    · simp at hl
    · have := (text_len sg a q (by omega) ⟨b6, b7⟩).1
      rw [← hl] at this
      simp at this
  · rcases txt_form fy ty with ⟨rfl, rfl⟩ | ⟨rfl, rfl⟩ | ⟨sg, m, p, a, q, b1, b2, b3, b4, b5, b6, b7, rfl⟩
    · simp at hl
    · rfl
    · have := (text_len sg a q (by omega) ⟨b6, b7⟩).1
      rw [← hl] at this
      simp at this
  · rcases txt_form fy ty with ⟨rfl, rfl⟩ | ⟨rfl, rfl⟩ | ⟨sg', m', p', a', q', c1, c2, c3, c4, c5, c6, c7, rfl⟩
    · have := (text_len sg a q (by omega) ⟨b6, b7⟩).1
      rw [hl] at this
      simp at this
    · have := (text_len sg a q (by omega) ⟨b6, b7⟩).1
      rw [hl] at this
      simp at this
    · rw [form_cut, form_cut] at hb
      obtain ⟨e1, e2⟩ := cut_unique hb (fun hm => pre_no_p sg a (by omega) _ hm rfl) (fun hm => pre_no_p sg' a' (by omega) _ hm rfl)
      have k1 := parseInt_ok sg a (by omega)
      have k2 := parseInt_ok sg' a' (by omega)
      rw [e1, k2] at k1
      injection k1 with k1
      have k3 := atoi_ok q (by omega)
      have k4 := atoi_ok q' (by omega)
      rw [e2, k4] at k3
      injection k3 with k3
      subst k3
      have ea : a' = a ∧ sg' = sg := by
        cases sg <;> cases sg' <;> simp at k1 <;> first | exact ⟨by omega, rfl⟩ | (exfalso; omega)
      obtain ⟨rfl, rfl⟩ := ea
      exact Flo.read_inj Ieee.double b1 c1 hx hy (by rw [← b5, ← c5])

theorem rep_of {x w1} {y : Nat} (hx : x < 4294967296) (hy : fin .f64 y = true) (h : fcv w1 .f32 x .f64 = y) : Rep y := by
  cases hn : nan32 x with
  | true =>
    have := nan_wide hn w1
    rw [h] at this
    rw [nan_fin64 this] at hy
    cases hy
  | false =>
    rw [fcv_wide hn] at h
    refine ⟨x, hx, ?_, h⟩
    cases hd : Ieee.single.read x with
    | number s m p => exact ⟨s, m, p, hd⟩
    | nan s f =>
      unfold nan32 at hn
      rw [show FloatKind.f32.decode x = _ from hd] at hn
      cases hn
    | infinity s =>
      exfalso
      have e : FloatKind.f64.decode (wid x) = .infinity s := by
        unfold wid
        rw [show FloatKind.f32.decode x = _ from hd]
        cases s <;> decide
      rw [h] at e
      unfold fin at hy
      rw [e] at hy
      cases hy

theorem rep_zero : Rep 0 ∧ Rep 9223372036854775808 :=
  ⟨⟨0, by decide, ⟨false, 0, -149, by decide⟩, by decide⟩, ⟨2147483648, by decide, ⟨true, 0, -149, by decide⟩, by decide⟩⟩

/-- what is no number of single precision is not equal to one -/
theorem not_rep {x y : Nat} (hx : x < 4294967296) (hy : y < 18446744073709551616) (fy : fin .f64 y = true) (h : ¬ Rep y) (w1 : World) : (FloatKind.f64.format.order (fcv w1 .f32 x .f64) y == some .eq) = false := by
  cases hq : (FloatKind.f64.format.order (fcv w1 .f32 x .f64) y == some .eq) with
  | false => rfl
  | true =>
    exfalso
    have ho : FloatKind.f64.format.order (fcv w1 .f32 x .f64) y = some .eq := by simpa using hq
    have hz : fcv w1 .f32 x .f64 < 18446744073709551616 := fcv_wf w1 .f32 x .f64 hx
    rcases txt_cases y hy with hf | rfl | rfl | ⟨sg, m, p, ry, hm⟩
    · rw [hf] at fy; cases fy
    · exact h rep_zero.1
    · exact h rep_zero.2
    · apply h
      apply rep_of hx fy (w1 := w1)
      cases hd : Ieee.double.read (fcv w1 .f32 x .f64) with
      | nan s f => rw [show FloatKind.f64.format = Ieee.double from rfl] at ho; unfold Ieee.Format.order at ho; rw [hd, ry] at ho; cases ho
      | infinity s => rw [show FloatKind.f64.format = Ieee.double from rfl] at ho; unfold Ieee.Format.order at ho; rw [hd, ry] at ho; cases s <;> cases ho
      | number s n q =>
        have o := (Flo.order_num Ieee.double _ y ⟨_, _, _, hd⟩ ⟨_, _, _, ry⟩).2.1.1 ho
        rw [Flo.V_eq hd, Flo.V_eq ry] at o
        have h1 : (0 : Rat) < (m : Rat) := by exact_mod_cast Nat.pos_of_ne_zero hm
        have hV : 0 < (m : Rat) * Flo.pw p := Rat.mul_pos h1 (Flo.pw_pos p)
        obtain ⟨n', q', r', v'⟩ := sign_of (sg := sg) (V := (m : Rat) * Flo.pw p) ⟨_, _, _, hd⟩ hV (by
          rw [show Flo.W (fcv w1 .f32 x .f64) = _ from Flo.V_eq hd, o]
          unfold Flo.val
          cases sg
          · simp
          · simp; grind)
        exact Flo.read_inj Ieee.double r' ry hz hy v'
theorem eq_self {y : Nat} (fy : fin .f64 y = true) : (FloatKind.f64.format.order y y == some .eq) = true := by
  rw [order_self]
  unfold fin at fy
  cases hd : FloatKind.f64.decode y <;> rw [hd] at fy <;> simp_all [Ieee.Datum.isNaN]

/-- the answers: a number of single precision, or 0 and false -/
def PsP (s : ByteArray) (w : World) (e : Ending) (w' : World) : Prop :=
  Nw w w' ∧ ((∃ r, r < 4294967296 ∧ Sm r ∧ IsTxt s (wid r) ∧ e = .returned (.tuple #[.float .f32 r, .bool true])) ∨ ((∀ r, r < 4294967296 → Sm r → ¬ IsTxt s (wid r)) ∧ e = .returned (.tuple #[.float .f32 0, .bool false])))

theorem isTxt_unique {s : ByteArray} {x y : Nat} (h1 : IsTxt s x) (h2 : IsTxt s y) : x = y := by
  obtain ⟨hx, fx, xs, tx, rfl⟩ := h1
  obtain ⟨hy, fy, ys, ty, e⟩ := h2
  exact txt_inj hx hy fy tx ty e

set_option maxRecDepth 100000 in
theorem implSingle (s : ByteArray) (hs : s.size ≤ 1048576) (w : World) (hL : LibW w) :
    Calls Tryz.prog 12 #[.string s] w (PsP s w) := by
  by_cases hy : ∃ y, IsTxt s y
  · obtain ⟨y, hy⟩ := hy
    have P := Lib.hid (implParse_yes s y hy w hL)
    by_cases hrep : Rep y
    · obtain ⟨r, hr, hsm, rfl⟩ := hrep
      obtain ⟨c1, c2⟩ := nar_back hr hsm
      have c3 := fun w => fcv_up hsm w
      have c4 := fcd_up hsm
      have es := eq_self hy.2.1
      have e3 : (FloatKind.f64.format.order (wid r) (wid r) != some .eq) = false := by unfold bne; rw [es]; rfl
      have H := Lib.hid (And.intro hy (And.intro hr hsm))
      clear hy hr hsm es
      go_enter Tryz.func12, Tryz.ntmps12
      go_wp2_with fail
      refine P.out.mono ?_
      rintro e w1 ⟨rfl, n1⟩
      have N1 := Lib.hid n1
      clear n1
      go_wp2_with fail
      all_goals
        go_ret2
        exact ⟨N1.out, .inl ⟨r, H.out.2.1, H.out.2.2, H.out.1, rfl⟩⟩
    · have hw : ∀ w, fcv w .f64 y .f32 < 4294967296 := fun w => fcv_wf w .f64 y .f32 hy.1
      have ne : ∀ w1 w2, (FloatKind.f64.format.order (fcv w1 .f32 (fcv w2 .f64 y .f32) .f64) y != some .eq) = true := fun w1 w2 => by unfold bne; rw [not_rep (hw w2) hy.1 hy.2.1 hrep w1]; rfl
      have B := Lib.hid (show ∀ r, r < 4294967296 → Sm r → ¬ IsTxt s (wid r) from fun r hr hsm ht => hrep ⟨r, hr, hsm, isTxt_unique ht hy⟩)
      clear hy hrep hw
      go_enter Tryz.func12, Tryz.ntmps12
      go_wp2_with fail
      refine P.out.mono ?_
      rintro e w1 ⟨rfl, n1⟩
      have N1 := Lib.hid n1
      clear n1
      go_wp2_with fail
      all_goals
        go_ret2
        exact ⟨N1.out.draw _, .inr ⟨B.out, rfl⟩⟩
  · have hno : ∀ y, ¬ IsTxt s y := fun y h => hy ⟨y, h⟩
    have P := Lib.hid (implParse_no s hs hno w hL)
    have B := Lib.hid hno
    clear hy hno
    go_enter Tryz.func12, Tryz.ntmps12
    go_wp2_with fail
    refine P.out.mono ?_
    rintro e w1 ⟨rfl, n1⟩
    have N1 := Lib.hid n1
    clear n1
    go_wp2_with fail
    all_goals
      go_ret2
      exact ⟨by first | exact N1.out | exact N1.out.draw _, .inr ⟨fun r _ _ => B.out _, rfl⟩⟩

set_option maxRecDepth 100000 in
theorem specSingle (s : ByteArray) (hs : s.size ≤ 1048576) (w : World) :
    Calls Tryz.prog 87 #[.string s] w (PsP s w) := by
  by_cases hy : ∃ y, IsTxt s y
  · obtain ⟨y, hy⟩ := hy
    have P := Lib.hid (specParse_yes s y hy w)
    by_cases hrep : Rep y
    · obtain ⟨r, hr, hsm, rfl⟩ := hrep
      obtain ⟨c1, c2⟩ := nar_back hr hsm
      have T := Lib.hid (fun w => specTextS r hr w)
      have H := Lib.hid (And.intro hy (And.intro hr hsm))
      clear hy hr hsm
      go_enter Tryz.func87, Tryz.ntmps87
      go_wp2_with fail
      refine P.out.mono ?_
      rintro e w1 ⟨rfl, n1⟩
      have N1 := Lib.hid n1
      clear n1
      go_wp2_with fail
      refine (T.out _).mono ?_
      rintro e w2 ⟨xs, u, rfl, tx, n2⟩
      have N2 := Lib.hid (N1.out.trans n2)
      have es : strOfNums xs = s := by
        obtain ⟨-, -, ys, ty, rfl⟩ := H.out.1
        rw [fcv_up H.out.2.2] at tx
        rw [txt_unique tx ty]
      clear n2 tx
      subst es
      go_wp2_with fail
      all_goals
        go_ret2
        exact ⟨by first | exact N2.out | exact N2.out.draw _, .inl ⟨r, H.out.2.1, H.out.2.2, H.out.1, rfl⟩⟩
    · have hw : ∀ w, fcv w .f64 y .f32 < 4294967296 := fun w => fcv_wf w .f64 y .f32 hy.1
      have T := Lib.hid (fun w w2 => specTextS (fcv w2 .f64 y .f32) (hw w2) w)
      have B := Lib.hid (show ∀ r, r < 4294967296 → Sm r → ¬ IsTxt s (wid r) from fun r hr hsm ht => hrep ⟨r, hr, hsm, isTxt_unique ht hy⟩)
      have H := Lib.hid (And.intro hy (And.intro hrep hw))
      clear hy hrep hw
      go_enter Tryz.func87, Tryz.ntmps87
      go_wp2_with fail
      refine P.out.mono ?_
      rintro e w1 ⟨rfl, n1⟩
      have N1 := Lib.hid n1
      clear n1
      go_wp2_with fail
      refine (T.out _ _).mono ?_
      rintro e w2 ⟨xs, u, rfl, tx, n2⟩
      have N2 := Lib.hid ((N1.out.draw _).trans n2)
      have ne : strOfNums xs ≠ s := by
        intro h
        obtain ⟨hy, fy, ys, ty, e2⟩ := H.out.1
        have hz := fcv_wf u .f32 (fcv w1 .f64 y .f32) .f64 (H.out.2.2 w1)
        have := txt_inj hz hy fy tx ty (by rw [h, e2])
        exact H.out.2.1 (rep_of (H.out.2.2 w1) fy this)
      have g : ((strOfNums xs).toList == s.toList) = false := by
        cases hq : ((strOfNums xs).toList == s.toList) with
        | false => rfl
        | true =>
          exfalso
          apply ne
          have h2 : (strOfNums xs).toList = s.toList := by simpa using hq
          rw [ByteArray.toList_eq, ByteArray.toList_eq] at h2
          apply ByteArray.ext
          exact Array.toList_inj.1 h2
      clear n2 tx ne
      go_wp2_with fail
      all_goals
        go_ret2
        exact ⟨N2.out, .inr ⟨B.out, rfl⟩⟩
  · have hno : ∀ y, ¬ IsTxt s y := fun y h => hy ⟨y, h⟩
    have P := Lib.hid (specParse_no s hs hno w)
    have B := Lib.hid hno
    clear hy hno
    go_enter Tryz.func87, Tryz.ntmps87
    go_wp2_with fail
    refine P.out.mono ?_
    rintro e w1 ⟨rfl, n1⟩
    have N1 := Lib.hid n1
    clear n1
    go_wp2_with fail
    all_goals
      go_ret2
      exact ⟨by first | exact N1.out | exact N1.out.draw _, .inr ⟨fun r _ _ => B.out _, rfl⟩⟩

theorem psp_same {s : ByteArray} {w w1 w2 w3 : World} {e1 e2 : Ending} (h1 : PsP s w e1 w1) (h2 : PsP s w2 e2 w3) : ∃ r b, r < 4294967296 ∧ Sm r ∧ e1 = .returned (.tuple #[.float .f32 r, .bool b]) ∧ e2 = .returned (.tuple #[.float .f32 r, .bool b]) := by
  obtain ⟨-, ⟨r, hr, hsm, ht, rfl⟩ | ⟨hno, rfl⟩⟩ := h1
  · obtain ⟨-, ⟨r', hr', hsm', ht', rfl⟩ | ⟨hno', rfl⟩⟩ := h2
    · have e := isTxt_unique ht ht'
      have er : r = r' := by rw [← (nar_back hr hsm).1 default, ← (nar_back hr' hsm').1 default, e]
      subst er
      exact ⟨r, true, hr, hsm, rfl, rfl⟩
    · exact absurd ht (hno' r hr hsm)
  · obtain ⟨-, ⟨r', hr', hsm', ht', rfl⟩ | ⟨hno', rfl⟩⟩ := h2
    · exact absurd ht' (hno r' hr' hsm')
    · exact ⟨0, false, by decide, ⟨false, 0, -149, by decide⟩, rfl, rfl⟩

end Go.Proofs.YtnmjkjjmigiabaaGreatDoor

/- The model's l1Split at any byte (XSpl: at 'p').
   Conditions: those that each statement names. -/
namespace Go.Proofs.YtnmjkjjmigiabaaGreatDoor
set_option linter.unusedSimpArgs false
set_option linter.unusedVariables false
open Go Go.RowKit

/-- pieces, each behind with its 'p' -/
def glueC (c : UInt8) (ps : List (List UInt8)) : List UInt8 := (ps.map fun p => p ++ [c]).flatten
def SplIC (c : UInt8) (l : List UInt8) (w0 : World) (v st i : Value) (wr : World) : Prop :=
  ∃ (ps : List (List UInt8)) (a k : Nat), st = .int .i64 (a : Int) ∧ i = .int .i64 (k : Int) ∧ a ≤ k ∧ k ≤ l.length ∧ l.take a = glueC c ps ∧ (∀ p ∈ ps, c ∉ p) ∧ c ∉ (l.take k).drop a ∧ ps.length ≤ k ∧ wr.ownsRow w0.heap.size 9 1 v ps.length (cellsT ps) ∧ Nw w0 wr
/-- the pieces of a string -/
def SplPC (c : UInt8) (l : List UInt8) (w : World) (e : Ending) (w' : World) : Prop :=
  ∃ (ps : List (List UInt8)) (r : List UInt8) (v : Value), e = .returned v ∧ l = glueC c ps ++ r ∧ (∀ p ∈ ps, c ∉ p) ∧ c ∉ r ∧ w'.ownsRow w.heap.size 9 1 v (ps.length + 1) (cellsT (ps ++ [r])) ∧ Nw w w'

theorem take_glueC {c : UInt8} {l : List UInt8} {a k : Nat} {ps : List (List UInt8)} (ha : a ≤ k) (hk : k < l.length) (h : l.take a = glueC c ps) (hb : l[k] = c) : l.take (k + 1) = glueC c (ps ++ [(l.take k).drop a]) := by
  have e : l.take k = l.take a ++ (l.take k).drop a := by
    conv => lhs; rw [← List.take_append_drop a (l.take k)]
    rw [List.take_take, Nat.min_eq_left ha]
  have g : glueC c (ps ++ [(l.take k).drop a]) = glueC c ps ++ ((l.take k).drop a ++ [c]) := by unfold glueC; simp
  rw [g, ← h, ← List.append_assoc, ← e, List.take_succ_eq_append_getElem hk, hb]

set_option maxHeartbeats 3200000 in
set_option maxRecDepth 100000 in
theorem l1Split_any (c : UInt8) (s : ByteArray) (hs : s.size ≤ 1048576) (w : World) :
    Calls Tryz.prog 78 #[.string s, .int .u8 (c.toNat : Int)] w (SplPC c s.data.toList w) := by
  obtain ⟨i0, hi, hz0, hz1, hz2⟩ := info_parts info_str
  have hl : s.data.toList.length = s.size := Array.length_toList
  go_enter Tryz.func78, Tryz.ntmps78
  go_wp2_with fail
  have Hown := Lib.hid (World.ownsRow_lit (base := w.heap.size) (e := 9) (size := 1) w #[] 0 (Nat.le_refl _) (by decide) rfl)
  go_loopw [5, 6, 7] (fun v st i wr => SplIC c s.data.toList w v st i wr) (fun _ _ i _ => s.size - (intOf i).toNat)
  case atStart => exact ⟨[], 0, 0, rfl, rfl, Nat.le_refl _, Nat.zero_le _, by simp [glueC], by simp, by simp, by simp, Hown.out, (Nw.refl w).alloc _⟩
  case round =>
    obtain ⟨ps, a, k, rfl, rfl, hak, hk, htk, hps, hno, hlen, hown, hN⟩ := hrel
    have Hk := Lib.hid (And.intro htk (And.intro hps hno))
    obtain ⟨sa, sl, sc, rfl⟩ := own_shape hown
    have Hown2 := Lib.hid hown
    have Nr := Lib.hid hN
    have hN0 := Nr
    clear htk hps hno hown hN
    have hsz := Lib.hid (show w.heap.size ≤ wr.heap.size from hN0.out.size)
    by_cases hlt : k < s.size
    · have hkl : k < s.data.toList.length := by omega
      have hbk : s.data.toList[k]'hkl = s[k] := rfl
      by_cases hb : s[k] = c
      · have hb' : (((s[k]).toNat : Int) == (c.toNat : Int)) = true := by rw [hb]; simp
        have HB := Lib.hid (And.intro hkl (And.intro hb hbk))
        clear hb hbk
        have hsl : ∀ W, (Instr.sliceAt 9 (.string s) (some (.int .i64 (a : Int))) (some (.int .i64 (k : Int))) none).run Tryz.prog W = .ok (.string (s.extract a k)) W := fun W => by
          exact slice_lh s a k hak (by omega) W
        go_wp2_with (at_builtin; refine wpList_append_own _ rfl _ _ 119 rfl w.heap.size 9 i0 (.string ⟨#[]⟩) 1 16 Tryz.underlying119 hi hz0 hz1 hz2 rfl (by decide) _ _ _ rfl (Hown2.out.alloc _) ⟨wr.heap.size, 0, none⟩ 1 1 [.string (s.extract a k)] rfl rfl ?c1 ?c2 ?c3 ?c4 ?c5 ?_)
        case c2 => rfl
        case c3 => unfold maxLen; omega
        case c4 => omega
        case c5 => have := hsz.out; simp; omega
        · intro v' w4 hown4 hgrow _
          have hrow : ∀ q, (Value.slice sa sl sc).ownBlock = some q → w.heap.size ≤ q := fun q hq => own_ge Hown2.out q hq
          have Nw4 := Lib.hid (nwg (Nr.out.alloc _) hgrow hrow)
          have e : cellsT ps ++ [Value.string (s.extract a k)] = cellsT (ps ++ [(s.data.toList.take k).drop a]) := by rw [ext_bytes]; simp [cellsT]
          rw [e, show ps.length + 1 = (ps ++ [(s.data.toList.take k).drop a]).length from by simp] at hown4
          have Hown4 := Lib.hid hown4
          clear hown4 hgrow hrow e
          go_wp2_with fail
          go_roundw
          case rel =>
            refine ⟨ps ++ [(s.data.toList.take k).drop a], k + 1, k + 1, by rw [show ((k + 1 : Nat) : Int) = (k : Int) + 1 from by omega], by rw [show ((k + 1 : Nat) : Int) = (k : Int) + 1 from by omega], Nat.le_refl _, by omega, take_glueC hak HB.out.1 Hk.out.1 (by rw [HB.out.2.2]; exact HB.out.2.1), ?_, ?_, by simp; omega, Hown4.out, Nw4.out⟩
            · intro q hq
              rcases List.mem_append.1 hq with hq | hq
              · exact Hk.out.2.1 q hq
              · simp at hq; subst hq; exact Hk.out.2.2
            · rw [List.drop_eq_nil_of_le (by rw [List.length_take]; omega)]; simp
          case measure => simp only [intOf]; omega
      · have hb' : (((s[k]).toNat : Int) == (c.toNat : Int)) = false := by
          cases h : (((s[k]).toNat : Int) == (c.toNat : Int)) with
          | false => rfl
          | true =>
            exfalso
            apply hb
            have h2 : ((s[k]).toNat : Int) = (c.toNat : Int) := by simpa using h
            apply UInt8.toNat_inj.1
            omega
        have HB := Lib.hid (And.intro hkl (And.intro hb hbk))
        clear hb hbk
        go_wp2_with fail
        go_roundw
        case rel =>
          refine ⟨ps, a, k + 1, rfl, by rw [show ((k + 1 : Nat) : Int) = (k : Int) + 1 from by omega], by omega, by omega, Hk.out.1, Hk.out.2.1, ?_, by omega, Hown2.out, Nr.out⟩
          rw [drop_snoc hak hkl]
          intro hm
          rcases List.mem_append.1 hm with hm | hm
          · exact Hk.out.2.2 hm
          · simp at hm
            exact HB.out.2.1 (by rw [← HB.out.2.2]; exact hm.symm)
        case measure => simp only [intOf]; omega
    · have hks : k = s.size := by omega
      go_wp2_with (at_builtin; refine wpList_append_own _ rfl _ _ 119 rfl w.heap.size 9 i0 (.string ⟨#[]⟩) 1 16 Tryz.underlying119 hi hz0 hz1 hz2 rfl (by decide) _ _ _ rfl (Hown2.out.alloc _) ⟨wr.heap.size, 0, none⟩ 1 1 [.string (s.extract a s.size)] rfl rfl ?d1 ?d2 ?d3 ?d4 ?d5 ?_)
      case d2 => rfl
      case d3 => unfold maxLen; omega
      case d4 => omega
      case d5 => have := hsz.out; simp; omega
      · intro v' w4 hown4 hgrow _
        have hrow : ∀ q, (Value.slice sa sl sc).ownBlock = some q → w.heap.size ≤ q := fun q hq => own_ge Hown2.out q hq
        have Nw4 := Lib.hid (nwg (Nr.out.alloc _) hgrow hrow)
        have e : cellsT ps ++ [Value.string (s.extract a s.size)] = cellsT (ps ++ [(s.data.toList.take s.size).drop a]) := by rw [ext_bytes]; simp [cellsT]
        rw [e] at hown4
        have Hown4 := Lib.hid hown4
        clear hown4 hgrow hrow e
        go_wp2_with fail
        go_ret
        refine ⟨ps, (s.data.toList.take s.size).drop a, _, rfl, ?_, Hk.out.2.1, ?_, Hown4.out, Nw4.out⟩
        · rw [← Hk.out.1, ← hl, List.take_length, List.take_append_drop]
        · rw [← hks]; exact Hk.out.2.2

end Go.Proofs.YtnmjkjjmigiabaaGreatDoor

/- Texts cut at a byte, and lines of a word and numbers: plain.
   Conditions: those that each statement names. -/
namespace Go.Proofs.YtnmjkjjmigiabaaGreatDoor
set_option linter.unusedSimpArgs false
set_option linter.unusedVariables false
open Go Go.RowKit

/-! ### pieces -/
/-- the pieces of a text between all occurrences of a byte -/
def spl (c : UInt8) : List UInt8 → List (List UInt8)
  | [] => [[]]
  | b :: l => if b = c then [] :: spl c l else match spl c l with
    | [] => [[b]]
    | p :: ps => (b :: p) :: ps
theorem spl_ne (c : UInt8) (l : List UInt8) : spl c l ≠ [] := by
  cases l with
  | nil => simp [spl]
  | cons b l =>
    unfold spl
    split
    · simp
    · split <;> simp
theorem spl_none {c : UInt8} {l : List UInt8} (h : c ∉ l) : spl c l = [l] := by
  induction l with
  | nil => rfl
  | cons b l ih =>
    have hb : b ≠ c := fun e => h (by rw [e]; exact List.mem_cons_self)
    have hl : c ∉ l := fun e => h (List.mem_cons_of_mem _ e)
    unfold spl
    rw [if_neg hb, ih hl]
theorem spl_cut {c : UInt8} {p r : List UInt8} (h : c ∉ p) : spl c (p ++ c :: r) = p :: spl c r := by
  induction p with
  | nil => simp [spl]
  | cons b p ih =>
    have hb : b ≠ c := fun e => h (by rw [e]; exact List.mem_cons_self)
    have hl : c ∉ p := fun e => h (List.mem_cons_of_mem _ e)
    rw [List.cons_append, spl, if_neg hb, ih hl]
theorem spl_glue {c : UInt8} {ps : List (List UInt8)} {l : List UInt8} (h : ∀ p ∈ ps, c ∉ p) : spl c (glueC c ps ++ l) = ps ++ spl c l := by
  induction ps with
  | nil => simp [glueC]
  | cons p ps ih =>
    have e : glueC c (p :: ps) ++ l = p ++ c :: (glueC c ps ++ l) := by simp [glueC]
    rw [e, spl_cut (h p List.mem_cons_self), ih (fun q hq => h q (List.mem_cons_of_mem _ hq))]
    rfl
theorem spl_le (c : UInt8) (l : List UInt8) : (spl c l).length ≤ l.length + 1 := by
  induction l with
  | nil => simp [spl]
  | cons b l ih =>
    unfold spl
    split
    · simp; omega
    · have hn := spl_ne c l
      split
      · simp
      · rename_i p ps h
        rw [h] at ih
        simp at ih ⊢; omega
/-- the pieces put together -/
theorem spl_join {c : UInt8} {l p : List UInt8} {ps : List (List UInt8)} (h : spl c l = p :: ps) : l = p ++ (ps.map (c :: ·)).flatten := by
  induction l generalizing p ps with
  | nil => simp [spl] at h; obtain ⟨rfl, rfl⟩ := h; rfl
  | cons b l ih =>
    unfold spl at h
    split at h
    · rename_i hb
      injection h with h1 h2
      subst h1 h2 hb
      cases hs : spl b l with
      | nil => exact absurd hs (spl_ne b l)
      | cons q qs => have := ih hs; simpa using this
    · cases hs : spl c l with
      | nil => exact absurd hs (spl_ne c l)
      | cons q qs =>
        rw [hs] at h
        injection h with h1 h2
        subst h1 h2
        rw [ih hs]; rfl
theorem spl_mem {c : UInt8} {l p : List UInt8} (h : p ∈ spl c l) : c ∉ p := by
  induction l generalizing p with
  | nil => simp [spl] at h; subst h; simp
  | cons b l ih =>
    unfold spl at h
    split at h
    · rcases List.mem_cons.1 h with rfl | h
      · simp
      · exact ih h
    · rename_i hb
      cases hs : spl c l with
      | nil => exact absurd hs (spl_ne c l)
      | cons q qs =>
        rw [hs] at h
        rcases List.mem_cons.1 h with rfl | h
        · intro hm
          rcases List.mem_cons.1 hm with e | hm
          · exact hb e.symm
          · exact ih (by rw [hs]; exact List.mem_cons_self) hm
        · exact ih (by rw [hs]; exact List.mem_cons_of_mem _ h)
theorem spl_len {c : UInt8} {l p : List UInt8} (h : p ∈ spl c l) : p.length ≤ l.length := by
  induction l generalizing p with
  | nil => simp [spl] at h; subst h; simp
  | cons b l ih =>
    unfold spl at h
    split at h
    · rcases List.mem_cons.1 h with rfl | h
      · simp
      · have := ih h; simp; omega
    · cases hs : spl c l with
      | nil => exact absurd hs (spl_ne c l)
      | cons q qs =>
        rw [hs] at h
        rcases List.mem_cons.1 h with rfl | h
        · have := ih (p := q) (by rw [hs]; exact List.mem_cons_self); simp; omega
        · have := ih (p := p) (by rw [hs]; exact List.mem_cons_of_mem _ h); simp; omega
theorem spl_line {c : UInt8} {p : List UInt8} {ts : List (List UInt8)} (hp : c ∉ p) (ht : ∀ t ∈ ts, c ∉ t) : spl c (p ++ (ts.map (c :: ·)).flatten) = p :: ts := by
  induction ts generalizing p with
  | nil => simpa using spl_none hp
  | cons t ts ih =>
    have e : p ++ ((t :: ts).map (c :: ·)).flatten = p ++ c :: (t ++ (ts.map (c :: ·)).flatten) := by simp
    rw [e, spl_cut hp, ih (ht t List.mem_cons_self) (fun q hq => ht q (List.mem_cons_of_mem _ hq))]

theorem idx_none {c : UInt8} : ∀ {l : List UInt8}, c ∉ l → Lib.index l [c] = -1
  | [], _ => by simp [Lib.index]
  | b :: l, h => by
    have hb : b ≠ c := fun e => h (by rw [e]; exact List.mem_cons_self)
    have hp : ([c] : List UInt8).isPrefixOf (b :: l) = false := by simp [List.isPrefixOf, Ne.symm hb]
    rw [Lib.index, hp, idx_none (fun e => h (List.mem_cons_of_mem _ e))]
    simp
theorem idx_at {c : UInt8} : ∀ {p : List UInt8} {r : List UInt8}, c ∉ p → Lib.index (p ++ c :: r) [c] = (p.length : Int)
  | [], r, _ => by rw [List.nil_append, Lib.index]; simp [List.isPrefixOf]
  | b :: p, r, h => by
    have hb : b ≠ c := fun e => h (by rw [e]; exact List.mem_cons_self)
    have hp : ([c] : List UInt8).isPrefixOf (b :: (p ++ c :: r)) = false := by simp [List.isPrefixOf, Ne.symm hb]
    rw [List.cons_append, Lib.index, hp, idx_at (fun e => h (List.mem_cons_of_mem _ e))]
    rw [if_neg (by decide), if_neg (fun e => by have := beq_iff_eq.1 e; omega)]
    simp
theorem splitK_spl (c : UInt8) : ∀ (k : Nat) (l : List UInt8), (Lib.splitK [c] 0 k l).length = min (spl c l).length (k + 1) ∧ ((spl c l).length ≤ k + 1 → Lib.splitK [c] 0 k l = spl c l)
  | 0, l => by
    have := spl_ne c l
    cases hs : spl c l with
    | nil => exact absurd hs this
    | cons q qs =>
      refine ⟨by simp [Lib.splitK], fun h => ?_⟩
      simp at h
      subst h
      have := spl_join hs
      simp at this
      rw [Lib.splitK, this]
  | k + 1, l => by
    by_cases hm : c ∈ l
    · obtain ⟨p, r, rfl, hp⟩ := List.eq_append_cons_of_mem hm
      have e : Lib.splitK [c] 0 (k + 1) (p ++ c :: r) = p :: Lib.splitK [c] 0 k r := by
        rw [Lib.splitK, idx_at hp, if_neg (fun e => by have := beq_iff_eq.1 e; omega)]
        simp
      obtain ⟨i1, i2⟩ := splitK_spl c k r
      rw [e, spl_cut hp]
      refine ⟨by rw [List.length_cons, List.length_cons, i1]; omega, fun h => ?_⟩
      rw [i2 (by simpa using h)]
    · have e : Lib.splitK [c] 0 (k + 1) l = [l] := by rw [Lib.splitK, idx_none hm]; rfl
      rw [e, spl_none hm]
      exact ⟨by simp, fun _ => rfl⟩

/-! ### two lists, element by element -/
def All2 {α β : Type} (R : α → β → Prop) : List α → List β → Prop
  | [], [] => True
  | a :: l, b :: m => R a b ∧ All2 R l m
  | _, _ => False
theorem All2.len {α β : Type} {R : α → β → Prop} : ∀ {l : List α} {m : List β}, All2 R l m → l.length = m.length
  | [], [], _ => rfl
  | _ :: _, _ :: _, h => by simp [h.2.len]
  | [], _ :: _, h => h.elim
  | _ :: _, [], h => h.elim
theorem All2.mem {α β : Type} {R : α → β → Prop} : ∀ {l : List α} {m : List β}, All2 R l m → ∀ a ∈ l, ∃ b, R a b
  | [], [], _, a, h => by simp at h
  | x :: l, y :: m, h, a, ha => by
    rcases List.mem_cons.1 ha with rfl | ha
    · exact ⟨y, h.1⟩
    · exact h.2.mem a ha
  | [], _ :: _, h, _, _ => h.elim
  | _ :: _, [], h, _, _ => h.elim
theorem All2.snoc {α β : Type} {R : α → β → Prop} : ∀ {l : List α} {m : List β} {a : α} {b : β}, All2 R l m → R a b → All2 R (l ++ [a]) (m ++ [b])
  | [], [], _, _, _, h => ⟨h, trivial⟩
  | _ :: _, _ :: _, _, _, h, r => ⟨h.1, h.2.snoc r⟩
  | [], _ :: _, _, _, h, _ => h.elim
  | _ :: _, [], _, _, h, _ => h.elim
theorem All2.right {α β : Type} {R : α → β → Prop} (hR : ∀ a b c, R a b → R a c → b = c) : ∀ {l : List α} {m n : List β}, All2 R l m → All2 R l n → m = n
  | [], [], [], _, _ => rfl
  | _ :: _, _ :: _, _ :: _, h, k => by rw [hR _ _ _ h.1 k.1, h.2.right hR k.2]
  | [], _ :: _, _, h, _ => h.elim
  | _ :: _, [], _, h, _ => h.elim
  | [], [], _ :: _, _, k => k.elim
  | _ :: _, _ :: _, [], _, k => k.elim
theorem All2.left {α β : Type} {R : α → β → Prop} (hR : ∀ a b c, R a c → R b c → a = b) : ∀ {l k : List α} {m : List β}, All2 R l m → All2 R k m → l = k
  | [], [], [], _, _ => rfl
  | _ :: _, _ :: _, _ :: _, h, k => by rw [hR _ _ _ h.1 k.1, h.2.left hR k.2]
  | [], _, _ :: _, h, _ => h.elim
  | _ :: _, _, [], h, _ => h.elim
  | [], _ :: _, [], _, k => k.elim
  | _ :: _, [], _ :: _, _, k => k.elim
theorem All2.get {α β : Type} {R : α → β → Prop} : ∀ {l : List α} {m : List β}, All2 R l m → ∀ {k : Nat} {a : α}, l[k]? = some a → ∃ b, m[k]? = some b ∧ R a b
  | [], [], _, k, a, h => by simp at h
  | x :: l, y :: m, h, 0, a, e => by simp at e; subst e; exact ⟨y, rfl, h.1⟩
  | x :: l, y :: m, h, k + 1, a, e => by simp at e; simpa using h.2.get e
  | [], _ :: _, h, _, _, _ => h.elim
  | _ :: _, [], h, _, _, _ => h.elim
theorem All2.of_get {α β : Type} {R : α → β → Prop} : ∀ {l : List α} {m : List β}, l.length = m.length → (∀ {k : Nat} {a : α} {b : β}, l[k]? = some a → m[k]? = some b → R a b) → All2 R l m
  | [], [], _, _ => trivial
  | x :: l, y :: m, hl, h => ⟨h (k := 0) rfl rfl, All2.of_get (by simpa using hl) (fun {k a b} h1 h2 => h (k := k + 1) (by simpa using h1) (by simpa using h2))⟩
  | [], _ :: _, hl, _ => by simp at hl
  | _ :: _, [], hl, _ => by simp at hl

/-! ### texts of numbers, and lines of a word and numbers -/
structure TxK (T : List UInt8 → Nat → Prop) : Prop where
  val : ∀ {p x y}, T p x → T p y → x = y
  txt : ∀ {p q x}, T p x → T q x → p = q
  sp : ∀ {p x}, T p x → 32 ∉ p
  nl : ∀ {p x}, T p x → 10 ∉ p
def TxD (p : List UInt8) (y : Nat) : Prop := IsTxt ⟨p.toArray⟩ y
def TxS (p : List UInt8) (r : Nat) : Prop := r < 4294967296 ∧ Sm r ∧ IsTxt ⟨p.toArray⟩ (wid r)

theorem txt_bytes {y : Nat} {xs : List Int} (h : TxtOf y xs) : ∀ c ∈ byts xs, 45 ≤ c.toNat := by
  have hd : ∀ n : Nat, n < 10 ^ 18 → ∀ c ∈ byts (dgs n), 45 ≤ c.toNat := fun n hn c hc => by have := (byts_dig n hn c hc).1; omega
  rcases h with ⟨_, rfl⟩ | ⟨_, rfl⟩ | ⟨_, rfl⟩ | ⟨sg, m, p, a, q, b1, b2, b3, b4, b5, b6, b7, rfl⟩
  · simp [byts]
  · simp [byts]
  · intro c hc; simp [byts] at hc; rcases hc with rfl | rfl <;> decide
  · intro c hc
    have e : byts (sgn sg ++ (dgs a ++ 112 :: numL q)) = byts (sgn sg) ++ (byts (dgs a) ++ 112 :: byts (numL q)) := by simp [byts]
    rw [e] at hc
    rcases List.mem_append.1 hc with hc | hc
    · cases sg <;> simp [byts, sgn] at hc
      subst hc; decide
    · rcases List.mem_append.1 hc with hc | hc
      · exact hd a (by omega) c hc
      · rcases List.mem_cons.1 hc with rfl | hc
        · decide
        · unfold numL at hc
          split at hc
          · rcases List.mem_cons.1 (show c ∈ 45 :: byts (dgs q.natAbs) from hc) with rfl | hc
            · decide
            · exact hd _ (by omega) c hc
          · exact hd _ (by omega) c hc
theorem txD_K : TxK TxD where
  val h k := isTxt_unique h k
  txt := by
    rintro p q x ⟨hx, fx, xs, tx, e1⟩ ⟨hy, fy, ys, ty, e2⟩
    have e := txt_unique tx ty
    subst e
    have h := e1.trans e2.symm
    have h2 : p.toArray = q.toArray := congrArg ByteArray.data h
    have h3 := congrArg Array.toList h2
    simpa using h3
  sp := by
    rintro p x ⟨hx, fx, xs, tx, e⟩ hm
    have hp : p = byts xs := by rw [← byts_str, ← e]
    rw [hp] at hm
    have := txt_bytes tx _ hm
    revert this; decide
  nl := by
    rintro p x ⟨hx, fx, xs, tx, e⟩ hm
    have hp : p = byts xs := by rw [← byts_str, ← e]
    rw [hp] at hm
    have := txt_bytes tx _ hm
    revert this; decide
theorem txS_K : TxK TxS where
  val := by
    rintro p r r' ⟨hr, hsm, ht⟩ ⟨hr', hsm', ht'⟩
    have e := isTxt_unique ht ht'
    rw [← (nar_back hr hsm).1 default, ← (nar_back hr' hsm').1 default, e]
  txt h k := txD_K.txt h.2.2 k.2.2
  sp h := txD_K.sp h.2.2
  nl h := txD_K.nl h.2.2

/-- a line of a word and numbers -/
def LineT (T : List UInt8 → Nat → Prop) (word l : List UInt8) (xs : List Nat) : Prop := ∃ ts, spl 32 l = word :: ts ∧ All2 T ts xs
section
variable {T : List UInt8 → Nat → Prop} {word l l' : List UInt8} {xs ys : List Nat}
theorem LineT.val (K : TxK T) (h : LineT T word l xs) (k : LineT T word l ys) : xs = ys := by
  obtain ⟨ts, e1, a1⟩ := h
  obtain ⟨ts', e2, a2⟩ := k
  rw [e1] at e2
  injection e2 with _ e2
  subst e2
  exact All2.right (R := T) (fun _ _ _ h k => K.val h k) a1 a2
theorem LineT.txt (K : TxK T) (h : LineT T word l xs) (k : LineT T word l' xs) : l = l' := by
  obtain ⟨ts, e1, a1⟩ := h
  obtain ⟨ts', e2, a2⟩ := k
  rw [spl_join e1, spl_join e2, All2.left (R := T) (fun _ _ _ h k => K.txt h k) a1 a2]
theorem LineT.nl (K : TxK T) (hw : 10 ∉ word) (h : LineT T word l xs) : 10 ∉ l := by
  obtain ⟨ts, e1, a1⟩ := h
  rw [spl_join e1]
  intro hm
  rcases List.mem_append.1 hm with hm | hm
  · exact hw hm
  · obtain ⟨q, hq, hm⟩ := List.mem_flatten.1 hm
    obtain ⟨t, ht, rfl⟩ := List.mem_map.1 hq
    obtain ⟨x, hx⟩ := a1.mem t ht
    rcases List.mem_cons.1 hm with h | hm
    · revert h; decide
    · exact K.nl hx hm
theorem LineT.of (K : TxK T) (hw : 32 ∉ word) {ts : List (List UInt8)} (h : All2 T ts xs) : LineT T word (word ++ (ts.map (32 :: ·)).flatten) xs :=
  ⟨ts, spl_line hw (fun t ht => by obtain ⟨x, hx⟩ := h.mem t ht; exact K.sp hx), h⟩
end

/-! ### lines -/
structure LnK {α : Type} (L : List UInt8 → α → Prop) : Prop where
  val : ∀ {p x y}, L p x → L p y → x = y
  nl : ∀ {p x}, L p x → 10 ∉ p
/-- a text of lines -/
def LinesT {α : Type} (L : List UInt8 → α → Prop) (ms : List α) (l : List UInt8) : Prop := ∃ ps, All2 L ps ms ∧ l = glueC 10 ps
/-- what is read of a text, and its rest -/
def ReadT {α : Type} (L : List UInt8 → α → Prop) (most : Nat) (l : List UInt8) (ms : List α) (r : List UInt8) : Prop :=
  ∃ ps, All2 L ps ms ∧ l = glueC 10 ps ++ r ∧ ms.length ≤ most ∧ (ms.length = most ∨ 10 ∉ r ∨ ∃ p q, r = p ++ 10 :: q ∧ 10 ∉ p ∧ ∀ m, ¬ L p m)
section
variable {α : Type} {L : List UInt8 → α → Prop} {ms ns : List α} {l r : List UInt8}
theorem All2.clean (K : LnK L) {ps : List (List UInt8)} (h : All2 L ps ms) : ∀ p ∈ ps, 10 ∉ p := fun p hp => by
  obtain ⟨m, hm⟩ := h.mem p hp
  exact K.nl hm
theorem LinesT.spl (K : LnK L) (h : LinesT L ms l) : ∃ ps, All2 L ps ms ∧ spl 10 l = ps ++ [[]] := by
  obtain ⟨ps, h, rfl⟩ := h
  refine ⟨ps, h, ?_⟩
  have := spl_glue (l := []) (h.clean K)
  rw [List.append_nil] at this
  rw [this]; rfl
theorem LinesT.val (K : LnK L) (h : LinesT L ms l) (k : LinesT L ns l) : ms = ns := by
  obtain ⟨ps, h1, e1⟩ := h.spl K
  obtain ⟨qs, h2, e2⟩ := k.spl K
  have e := List.append_cancel_right (e1.symm.trans e2)
  subst e
  exact All2.right (R := L) (fun _ _ _ h k => K.val h k) h1 h2
theorem ReadT.done {most : Nat} (h : ReadT L most l ms []) : LinesT L ms l := by
  obtain ⟨ps, h1, e, -, -⟩ := h
  exact ⟨ps, h1, by rw [e, List.append_nil]⟩
/-- a text of lines is read to its end -/
theorem ReadT.rest (K : LnK L) {most : Nat} (h : ReadT L most l ms r) (k : LinesT L ns l) (hn : ns.length ≤ most) : r = [] := by
  obtain ⟨ps, h1, e, hl, hstop⟩ := h
  obtain ⟨qs, h2, e2⟩ := k.spl K
  have e1 : Go.Proofs.YtnmjkjjmigiabaaGreatDoor.spl 10 l = ps ++ Go.Proofs.YtnmjkjjmigiabaaGreatDoor.spl 10 r := by rw [e]; exact spl_glue (h1.clean K)
  rw [e1] at e2
  have none : 10 ∉ r → r = [] := fun hr => by
    rw [spl_none hr] at e2
    have := (List.append_inj' e2 rfl).2
    simpa using this
  rcases hstop with hs | hs | ⟨p, q, rfl, hp, hno⟩
  · apply none
    have hlen := congrArg List.length e2
    simp at hlen
    have := h1.len
    have := h2.len
    intro hm
    obtain ⟨p, q, rfl, hp⟩ := List.eq_append_cons_of_mem hm
    rw [spl_cut hp] at hlen
    have := List.length_pos_iff.2 (spl_ne 10 q)
    simp at hlen
    omega
  · exact none hs
  · exfalso
    rw [spl_cut hp] at e2
    have hmem : p ∈ qs := by
      have hq := spl_ne 10 q
      obtain ⟨x, t, hx⟩ : ∃ t x, Go.Proofs.YtnmjkjjmigiabaaGreatDoor.spl 10 q = t ++ [x] := ⟨_, _, (List.dropLast_concat_getLast hq).symm⟩
      rw [hx, show ps ++ p :: (x ++ [t]) = (ps ++ p :: x) ++ [t] from by simp] at e2
      have := (List.append_inj' e2 rfl).1
      rw [← this]
      simp
    obtain ⟨m, hm⟩ := h2.mem p hmem
    exact hno m hm
end

/-! ### modes -/
def wMode : List UInt8 := [109, 111, 100, 101]
def LineM (p : List UInt8) (m : M4) : Prop := LineT TxS wMode p [m.pr, m.pi, m.gr, m.gi]
theorem lineM_K : LnK LineM where
  val := by
    rintro p ⟨a, b, c, d⟩ ⟨a', b', c', d'⟩ h k
    have e := LineT.val txS_K h k
    simp at e
    obtain ⟨rfl, rfl, rfl, rfl⟩ := e
    rfl
  nl h := LineT.nl txS_K (by decide) h
/-- a text of a valid body -/
def GoodB (l : List UInt8) (ms : List M4) : Prop := bodyB ms = true ∧ LinesT LineM ms l

end Go.Proofs.YtnmjkjjmigiabaaGreatDoor

/- Plain facts: a product with a factor from 0 to 1 is no greater; squares and sums of squares grow with the parts; a damped pole stays valid. No program stands in it.
   Conditions: those that each statement names. -/
namespace Go.Proofs.YtnmjkjjmigiabaaGreatDoor
set_option linter.unusedSimpArgs false
set_option linter.unusedVariables false
open Go

namespace Flo
theorem val_ra (s : Bool) (m : Nat) (p : Int) : ra (val s m p) = (m : Rat) * pw p := by
  have h := mag_nonneg m p
  unfold ra val
  cases s
  · simp only [Bool.false_eq_true, if_false]; rw [if_neg (by grind)]; grind
  · simp only [if_true]
    split <;> grind
theorem mul_mono (f : Ieee.Format) (he : 2 ≤ f.exponentBits) (x y x' y' : Nat) (hx : IsNum f x) (hy : IsNum f y) (hx' : IsNum f x') (hy' : IsNum f y') (h : ra (V f x * V f y) ≤ ra (V f x' * V f y')) (hB : ra (V f x' * V f y') < pw (top f)) :
    ∃ r r', f.mul x y = some r ∧ f.mul x' y' = some r' ∧ IsNum f r ∧ IsNum f r' ∧ ra (V f r) ≤ ra (V f r') := by
  obtain ⟨s, m, i, hx⟩ := hx
  obtain ⟨t, n, j, hy⟩ := hy
  obtain ⟨s', m', i', hx'⟩ := hx'
  obtain ⟨t', n', j', hy'⟩ := hy'
  rw [V_eq hx, V_eq hy, V_eq hx', V_eq hy', ← val_mul, ← val_mul, val_ra, val_ra] at h
  rw [V_eq hx', V_eq hy', ← val_mul, val_ra] at hB
  obtain ⟨a, b, c, d, k1, k2, k3⟩ := write_mono f he (s ^^ t) (s' ^^ t') (m * n) (m' * n') (i + j) (i' + j') h hB
  refine ⟨_, _, ?_, ?_, ⟨_, _, _, k1⟩, ⟨_, _, _, k2⟩, ?_⟩
  · unfold Ieee.Format.mul; rw [hx, hy]; rfl
  · unfold Ieee.Format.mul; rw [hx', hy']; rfl
  · rw [V_eq k1, V_eq k2, val_ra, val_ra]; exact k3
theorem add_mono (f : Ieee.Format) (he : 2 ≤ f.exponentBits) (x y x' y' : Nat) (hx : IsNum f x) (hy : IsNum f y) (hx' : IsNum f x') (hy' : IsNum f y') (h : ra (V f x + V f y) ≤ ra (V f x' + V f y')) (hB : ra (V f x' + V f y') < pw (top f)) :
    ∃ r r', f.add x y = some r ∧ f.add x' y' = some r' ∧ IsNum f r ∧ IsNum f r' ∧ ra (V f r) ≤ ra (V f r') := by
  obtain ⟨s, m, i, hx⟩ := hx
  obtain ⟨t, n, j, hy⟩ := hy
  obtain ⟨s', m', i', hx'⟩ := hx'
  obtain ⟨t', n', j', hy'⟩ := hy'
  obtain ⟨q, k, b, h3, h4⟩ := sum_val s t m n i j
  obtain ⟨q', k', b', h3', h4'⟩ := sum_val s' t' m' n' i' j'
  rw [V_eq hx, V_eq hy, V_eq hx', V_eq hy', ← h4, ← h4', val_ra, val_ra] at h
  rw [V_eq hx', V_eq hy', ← h4', val_ra] at hB
  obtain ⟨a, b1, c, d, k1, k2, k3⟩ := write_mono f he q q' k k' b b' h hB
  refine ⟨_, _, ?_, ?_, ⟨_, _, _, k1⟩, ⟨_, _, _, k2⟩, ?_⟩
  · unfold Ieee.Format.add; rw [hx, hy, h3]; rfl
  · unfold Ieee.Format.add; rw [hx', hy', h3']; rfl
  · rw [V_eq k1, V_eq k2, val_ra, val_ra]; exact k3
/-- a product that the format has is exact -/
theorem mul_fix (f : Ieee.Format) (he : 2 ≤ f.exponentBits) (x y z : Nat) (hx : IsNum f x) (hy : IsNum f y) (hz : IsNum f z) (h : ra (V f x * V f y) = ra (V f z)) (hB : ra (V f z) < pw (top f)) :
    ∃ r, f.mul x y = some r ∧ IsNum f r ∧ V f r = V f x * V f y := by
  obtain ⟨s, m, i, hx⟩ := hx
  obtain ⟨t, n, j, hy⟩ := hy
  obtain ⟨q, k, e, hz⟩ := hz
  obtain ⟨b1, b2, -⟩ := read_bound f he z q k e hz
  rw [V_eq hx, V_eq hy, V_eq hz, ← val_mul, val_ra, val_ra] at h
  rw [V_eq hz, val_ra] at hB
  obtain ⟨m', p', k1, k2, k3, k4⟩ := write_exact f he (s ^^ t) (m * n) (i + j) k e h b1 b2 (by rw [h]; exact hB)
  refine ⟨_, ?_, ⟨_, _, _, k1⟩, ?_⟩
  · unfold Ieee.Format.mul; rw [hx, hy]; rfl
  · rw [V_eq k1, V_eq hx, V_eq hy, ← val_mul]; unfold val; rw [k4]
/-- a number's product with itself is not below 0 -/
theorem self_pos (f : Ieee.Format) (he : 2 ≤ f.exponentBits) (x : Nat) (hx : IsNum f x) (hB : ra (V f x * V f x) < pw (top f)) : ∃ r, f.mul x x = some r ∧ 0 ≤ V f r := by
  obtain ⟨s, m, i, hx⟩ := hx
  rw [V_eq hx, ← val_mul, val_ra] at hB
  obtain ⟨a, b, c, d, k1, k2, k3⟩ := write_mono f he (s ^^ s) (s ^^ s) (m * m) (m * m) (i + i) (i + i) (Rat.le_refl) hB
  refine ⟨f.write (.number (s ^^ s) (m * m) (i + i)), ?_, ?_⟩
  · unfold Ieee.Format.mul; rw [hx]; rfl
  · rw [V_eq k1]; unfold val; rw [show (s ^^ s) = false by cases s <;> rfl]; have := mag_nonneg a b; simp only [Bool.false_eq_true, if_false]; grind
end Flo

theorem ra_mul (a b : Rat) : ra (a * b) = ra a * ra b := by
  have le_of : ∀ q : Rat, ¬ q < 0 → 0 ≤ q := fun q h => by grind
  by_cases ha : a < 0 <;> by_cases hb : b < 0
  · have := Rat.mul_pos (show 0 < -a by grind) (show 0 < -b by grind)
    unfold ra
    rw [if_neg (by grind), if_pos ha, if_pos hb]; grind
  · have := Rat.mul_nonneg (show 0 ≤ -a by grind) (le_of b hb)
    unfold ra
    rw [if_pos ha, if_neg hb]
    split <;> grind
  · have := Rat.mul_nonneg (le_of a ha) (show 0 ≤ -b by grind)
    unfold ra
    rw [if_neg ha, if_pos hb]
    split <;> grind
  · have := Rat.mul_nonneg (le_of a ha) (le_of b hb)
    unfold ra
    rw [if_neg (by grind), if_neg ha, if_neg hb]
theorem ra_pos {q : Rat} (h : 0 ≤ q) : ra q = q := by unfold ra; rw [if_neg (by grind)]
theorem sm_mag {b : Nat} (h : Sm b) : ra (S b) < Flo.pw 129 := by
  have h1 := ra_le (single_abs h)
  have h2 : Flo.pw 128 < Flo.pw 129 := Flo.pw_lt (by omega)
  grind

/-- a factor from 0 to 1 makes no part greater -/
theorem damp_part (q t : Nat) (hq : Sm q) (ht : Sm t) (h0 : 0 ≤ S t) (h1 : S t ≤ 1) (hb : ra (S q) ≤ 4) :
    Calm .mul .f32 q t ∧ Sm (opB .mul .f32 q t) ∧ ra (S (opB .mul .f32 q t)) ≤ ra (S q) := by
  have n1 : Sm 1065353216 ∧ S 1065353216 = 1 := by
    have h : Ieee.single.read 1065353216 = .number false 8388608 (-23) := by decide
    refine ⟨⟨_, _, _, h⟩, ?_⟩
    rw [show S 1065353216 = _ from Flo.V_eq h]
    unfold Flo.val
    have := Flo.pw_neg_mul 23
    rw [show Flo.pw 23 = 8388608 from Flo.pw_nat 23] at this
    simp only [Bool.false_eq_true, if_false]
    have e2 : ((8388608 : Nat) : Rat) = 8388608 := rfl
    rw [e2]; grind
  have l1 : (4 : Rat) < Flo.pw 127 := by
    have : Flo.pw 2 < Flo.pw 127 := Flo.pw_lt (by omega)
    rw [show Flo.pw 2 = 4 from Flo.pw_nat 2] at this
    exact this
  have hqn := ra_nonneg (S q)
  have hm := Rat.mul_le_mul_of_nonneg_left h1 hqn
  obtain ⟨r, r', e1, e2, e3, e4, e5⟩ := Flo.mul_mono Ieee.single (by decide) q t q 1065353216 hq ht hq n1.1
    (by rw [ra_mul, ra_mul, ra_pos (show 0 ≤ Flo.V Ieee.single t from h0), show Flo.V Ieee.single 1065353216 = 1 from n1.2, ra_pos (show (0:Rat) ≤ 1 by grind)]; exact hm)
    (by rw [ra_mul, show Flo.V Ieee.single 1065353216 = 1 from n1.2, ra_pos (show (0:Rat) ≤ 1 by grind), show Flo.top Ieee.single = 127 from by decide]; show ra (S q) * 1 < _; grind)
  obtain ⟨z, z1, z2, z3⟩ := Flo.mul_fix Ieee.single (by decide) q 1065353216 q hq n1.1 hq
    (by rw [show Flo.V Ieee.single 1065353216 = 1 from n1.2, show Flo.V Ieee.single q * 1 = Flo.V Ieee.single q by grind])
    (by rw [show Flo.top Ieee.single = 127 from by decide]; show ra (S q) < _; grind)
  rw [e2] at z1
  cases z1
  rw [z3, show Flo.V Ieee.single 1065353216 = 1 from n1.2, show Flo.V Ieee.single q * 1 = Flo.V Ieee.single q by grind] at e5
  obtain ⟨c1, b1⟩ := Calm.of (show floatBits .mul .f32 q t = some r from e1)
  rw [b1]
  exact ⟨c1, e3, e5⟩

/-- squares grow with the numbers -/
theorem square_part (p q : Nat) (hp : Sm p) (hq : Sm q) (h : ra (S p) ≤ ra (S q)) (hb : ra (S q) ≤ 4) :
    Calm .mul .f32 p p ∧ Calm .mul .f32 q q ∧ Sm (opB .mul .f32 p p) ∧ Sm (opB .mul .f32 q q) ∧ ra (S (opB .mul .f32 p p)) ≤ ra (S (opB .mul .f32 q q)) := by
  have l1 : (16 : Rat) < Flo.pw 127 := by
    have : Flo.pw 4 < Flo.pw 127 := Flo.pw_lt (by omega)
    rw [show Flo.pw 4 = 16 from Flo.pw_nat 4] at this
    exact this
  have a0 := ra_nonneg (S p)
  have b0 := ra_nonneg (S q)
  have k1 := Rat.mul_le_mul_of_nonneg_left h a0
  have k2 := Rat.mul_le_mul_of_nonneg_right h b0
  have k3 := Rat.mul_le_mul_of_nonneg_left hb b0
  obtain ⟨r, r', e1, e2, e3, e4, e5⟩ := Flo.mul_mono Ieee.single (by decide) p p q q hp hp hq hq
    (by rw [ra_mul, ra_mul]; show ra (S p) * ra (S p) ≤ ra (S q) * ra (S q); grind)
    (by rw [ra_mul, show Flo.top Ieee.single = 127 from by decide]; show ra (S q) * ra (S q) < _; grind)
  obtain ⟨c1, b1⟩ := Calm.of (show floatBits .mul .f32 p p = some r from e1)
  obtain ⟨c2, b2⟩ := Calm.of (show floatBits .mul .f32 q q = some r' from e2)
  rw [b1, b2]
  exact ⟨c1, c2, e3, e4, e5⟩

/-- the sum of the squares grows with the parts -/
theorem sqr_mono (a b c d : Nat) (ha : Sm a) (hb : Sm b) (hc : Sm c) (hd : Sm d) (h1 : ra (S a) ≤ ra (S c)) (h2 : ra (S b) ≤ ra (S d)) (hc4 : ra (S c) ≤ 4) (hd4 : ra (S d) ≤ 4) :
    ra (Flo.W (sqr (wid a) (wid b))) ≤ ra (Flo.W (sqr (wid c) (wid d))) := by
  obtain ⟨na, va⟩ := wid_num ha
  obtain ⟨nb, vb⟩ := wid_num hb
  obtain ⟨nc, vc⟩ := wid_num hc
  obtain ⟨nd, vd⟩ := wid_num hd
  have l1 : (64 : Rat) < Flo.pw 1023 := by
    have : Flo.pw 6 < Flo.pw 1023 := Flo.pw_lt (by omega)
    rw [show Flo.pw 6 = 64 from Flo.pw_nat 6] at this
    exact this
  have sqm : ∀ x y : Nat, Flo.Nm x → Flo.Nm y → ra (Flo.W x) ≤ ra (Flo.W y) → ra (Flo.W y) ≤ 4 →
      ∃ r r', floatBits .mul .f64 x x = some r ∧ floatBits .mul .f64 y y = some r' ∧ Flo.Nm r ∧ Flo.Nm r' ∧ 0 ≤ Flo.W r ∧ 0 ≤ Flo.W r' ∧ Flo.W r ≤ Flo.W r' ∧ Flo.W r' ≤ 17 := by
    intro x y nx ny h h4
    have a0 := ra_nonneg (Flo.W x)
    have b0 := ra_nonneg (Flo.W y)
    have k1 := Rat.mul_le_mul_of_nonneg_left h a0
    have k2 := Rat.mul_le_mul_of_nonneg_right h b0
    have k3 := Rat.mul_le_mul_of_nonneg_left h4 b0
    obtain ⟨r, r', e1, e2, e3, e4, e5⟩ := Flo.mul_mono Ieee.double (by decide) x x y y nx nx ny ny
      (by rw [ra_mul, ra_mul]; show ra (Flo.W x) * ra (Flo.W x) ≤ ra (Flo.W y) * ra (Flo.W y); grind)
      (by rw [ra_mul, Flo.top_double]; show ra (Flo.W y) * ra (Flo.W y) < _; grind)
    obtain ⟨q, q1, q2⟩ := Flo.self_pos Ieee.double (by decide) x nx (by rw [ra_mul, Flo.top_double]; show ra (Flo.W x) * ra (Flo.W x) < _; grind)
    obtain ⟨q', q1', q2'⟩ := Flo.self_pos Ieee.double (by decide) y ny (by rw [ra_mul, Flo.top_double]; show ra (Flo.W y) * ra (Flo.W y) < _; grind)
    rw [e1] at q1
    rw [e2] at q1'
    cases q1
    cases q1'
    obtain ⟨r2, d1, d2, d3⟩ := Flo.d_mul y y ny ny 16 ⟨by have := ra_mul (Flo.W y) (Flo.W y); have := ra_ab (Flo.W y * Flo.W y); unfold Flo.Ab at this; grind, by have := ra_mul (Flo.W y) (Flo.W y); have := ra_ab (Flo.W y * Flo.W y); unfold Flo.Ab at this; grind⟩ (by grind)
    rw [show floatBits .mul .f64 y y = some r' from e2] at d1
    cases d1
    have u1 := Flo.u_le
    have eu : Flo.et ≤ Flo.u := Flo.pw_le (by omega)
    have hy2 : Flo.W y * Flo.W y ≤ 16 := by have := ra_mul (Flo.W y) (Flo.W y); have := ra_ab (Flo.W y * Flo.W y); unfold Flo.Ab at this; grind
    refine ⟨r, r', e1, e2, e3, e4, q2, q2', ?_, ?_⟩
    · rw [ra_pos q2, ra_pos q2'] at e5; exact e5
    · unfold Flo.Ab at d3; grind
  obtain ⟨r1, r1', a1, a2, a3, a4, a5, a6, a7, a8⟩ := sqm (wid a) (wid c) na nc (by rw [va, vc]; exact h1) (by rw [vc]; exact hc4)
  obtain ⟨r2, r2', b1, b2, b3, b4, b5, b6, b7, b8⟩ := sqm (wid b) (wid d) nb nd (by rw [vb, vd]; exact h2) (by rw [vd]; exact hd4)
  obtain ⟨r, r', e1, e2, e3, e4, e5⟩ := Flo.add_mono Ieee.double (by decide) r1 r2 r1' r2' a3 b3 a4 b4
    (by show ra (Flo.W r1 + Flo.W r2) ≤ ra (Flo.W r1' + Flo.W r2'); rw [ra_pos (by grind), ra_pos (by grind)]; grind)
    (by rw [Flo.top_double]; show ra (Flo.W r1' + Flo.W r2') < _; rw [ra_pos (by grind)]; grind)
  have f1 : sqr (wid a) (wid b) = r := by
    unfold sqr; rw [a1, b1]; simp only [Option.getD_some]; rw [show floatBits .add .f64 r1 r2 = some r from e1]; rfl
  have f2 : sqr (wid c) (wid d) = r' := by
    unfold sqr; rw [a2, b2]; simp only [Option.getD_some]; rw [show floatBits .add .f64 r1' r2' = some r' from e2]; rfl
  rw [f1, f2]
  exact e5
end Go.Proofs.YtnmjkjjmigiabaaGreatDoor

/- Plain facts: sums, differences and narrowings that the format has are exact; a product with 1 is the number itself. No program stands in it.
   Conditions: those that each statement names. -/
namespace Go.Proofs.YtnmjkjjmigiabaaGreatDoor
set_option linter.unusedSimpArgs false
set_option linter.unusedVariables false
open Go

namespace Flo
/-- a sum that the format has is exact -/
theorem add_fix (f : Ieee.Format) (he : 2 ≤ f.exponentBits) (x y z : Nat) (hx : IsNum f x) (hy : IsNum f y) (hz : IsNum f z) (h : ra (V f x + V f y) = ra (V f z)) (hB : ra (V f z) < pw (top f)) :
    ∃ r, f.add x y = some r ∧ IsNum f r ∧ V f r = V f x + V f y := by
  obtain ⟨s, m, i, hx⟩ := hx
  obtain ⟨t, n, j, hy⟩ := hy
  obtain ⟨q, k, e, hz⟩ := hz
  obtain ⟨b1, b2, -⟩ := read_bound f he z q k e hz
  obtain ⟨q', k', b', h3, h4⟩ := sum_val s t m n i j
  rw [V_eq hx, V_eq hy, V_eq hz, ← h4, val_ra, val_ra] at h
  rw [V_eq hz, val_ra] at hB
  obtain ⟨m', p', k1, k2, k3, k4⟩ := write_exact f he q' k' b' k e h b1 b2 (by rw [h]; exact hB)
  refine ⟨_, ?_, ⟨_, _, _, k1⟩, ?_⟩
  · unfold Ieee.Format.add; rw [hx, hy, h3]; rfl
  · rw [V_eq k1, V_eq hx, V_eq hy, ← h4]; unfold val; rw [k4]
theorem sub_fix (f : Ieee.Format) (he : 2 ≤ f.exponentBits) (x y z : Nat) (hx : IsNum f x) (hy : IsNum f y) (hz : IsNum f z) (h : ra (V f x - V f y) = ra (V f z)) (hB : ra (V f z) < pw (top f)) :
    ∃ r, f.sub x y = some r ∧ IsNum f r ∧ V f r = V f x - V f y := by
  obtain ⟨s, m, i, hx⟩ := hx
  obtain ⟨t, n, j, hy⟩ := hy
  obtain ⟨q, k, e, hz⟩ := hz
  obtain ⟨b1, b2, -⟩ := read_bound f he z q k e hz
  obtain ⟨q', k', b', h3, h4⟩ := sum_val s (!t) m n i j
  rw [val_opp] at h4
  have h5 : val q' k' b' = val s m i - val t n j := by grind
  rw [V_eq hx, V_eq hy, V_eq hz, ← h5, val_ra, val_ra] at h
  rw [V_eq hz, val_ra] at hB
  obtain ⟨m', p', k1, k2, k3, k4⟩ := write_exact f he q' k' b' k e h b1 b2 (by rw [h]; exact hB)
  refine ⟨_, ?_, ⟨_, _, _, k1⟩, ?_⟩
  · unfold Ieee.Format.sub; rw [hx, hy, show (Ieee.Datum.number t n j).opposite = .number (!t) n j from rfl, h3]; rfl
  · rw [V_eq k1, V_eq hx, V_eq hy, ← h5]; unfold val; rw [k4]
/-- a number of double precision that single precision has is narrowed exactly -/
theorem nar_fix (b z : Nat) (hb : Nm b) (hz : IsNum Ieee.single z) (h : ra (W b) = ra (V Ieee.single z)) (hB : ra (V Ieee.single z) < pw 127) :
    IsNum Ieee.single (nar b) ∧ V Ieee.single (nar b) = W b := by
  obtain ⟨s, m, i, hb⟩ := hb
  obtain ⟨q, k, e, hz⟩ := hz
  obtain ⟨b1, b2, -⟩ := read_bound Ieee.single (by decide) z q k e hz
  rw [show W b = _ from V_eq hb, V_eq hz, val_ra, val_ra] at h
  rw [V_eq hz, val_ra] at hB
  obtain ⟨m', p', k1, k2, k3, k4⟩ := write_exact Ieee.single (by decide) s m i k e h b1 b2 (by rw [h, show top Ieee.single = 127 from by decide]; exact hB)
  have hn : nar b = Ieee.single.write (.number s m i) := by
    unfold nar
    rw [show FloatKind.f64.decode b = .number s m i from hb]
    rfl
  rw [hn]
  refine ⟨⟨_, _, _, k1⟩, ?_⟩
  rw [V_eq k1, show W b = _ from V_eq hb]; unfold val; rw [k4]
end Flo

theorem one_s : Sm 1065353216 ∧ S 1065353216 = 1 := by
  have h : Ieee.single.read 1065353216 = .number false 8388608 (-23) := by decide
  refine ⟨⟨_, _, _, h⟩, ?_⟩
  rw [show S 1065353216 = _ from Flo.V_eq h]
  unfold Flo.val
  have := Flo.pw_neg_mul 23
  rw [show Flo.pw 23 = 8388608 from Flo.pw_nat 23] at this
  simp only [Bool.false_eq_true, if_false]
  have e2 : ((8388608 : Nat) : Rat) = 8388608 := rfl
  rw [e2]; grind
theorem nil_s : Sm 0 ∧ S 0 = 0 := by
  have h : Ieee.single.read 0 = .number false 0 (-149) := by decide
  refine ⟨⟨_, _, _, h⟩, ?_⟩
  rw [show S 0 = _ from Flo.V_eq h]
  unfold Flo.val
  simp

/-- MultiplySingle by 1: the parts stay the same numbers -/
theorem mulS_one (a b : Nat) (ha : Sm a) (hb : Sm b) (h1 : ra (S a) ≤ 4) (h2 : ra (S b) ≤ 4) :
    Sm (mulSre a b 1065353216 0) ∧ Sm (mulSim a b 1065353216 0) ∧ S (mulSre a b 1065353216 0) = S a ∧ S (mulSim a b 1065353216 0) = S b := by
  obtain ⟨na, va⟩ := wid_num ha
  obtain ⟨nb, vb⟩ := wid_num hb
  obtain ⟨n1, v1⟩ := wid_num one_s.1
  obtain ⟨n0, v0⟩ := wid_num nil_s.1
  rw [one_s.2] at v1
  rw [nil_s.2] at v0
  have l1 : (4 : Rat) < Flo.pw 127 := by
    have : Flo.pw 2 < Flo.pw 127 := Flo.pw_lt (by omega)
    rw [show Flo.pw 2 = 4 from Flo.pw_nat 2] at this
    exact this
  have l2 : Flo.pw 127 < Flo.pw 1023 := Flo.pw_lt (by omega)
  have mul1 : ∀ x y : Nat, Sm x → Sm y → ra (S x) ≤ 4 → (S y = 1 ∨ S y = 0) → Flo.Nm (opB .mul .f64 (wid x) (wid y)) ∧ Flo.W (opB .mul .f64 (wid x) (wid y)) = S x * S y := by
    intro x y hx hy h4 h10
    obtain ⟨nx, vx⟩ := wid_num hx
    obtain ⟨ny, vy⟩ := wid_num hy
    rcases h10 with h10 | h10
    · obtain ⟨r, e1, e2, e3⟩ := Flo.mul_fix Ieee.double (by decide) (wid x) (wid y) (wid x) nx ny nx
        (by show ra (Flo.W (wid x) * Flo.W (wid y)) = ra (Flo.W (wid x)); rw [vx, vy, h10, show S x * 1 = S x by grind])
        (by rw [Flo.top_double]; show ra (Flo.W (wid x)) < _; rw [vx]; grind)
      obtain ⟨c, b⟩ := Calm.of (show floatBits .mul .f64 (wid x) (wid y) = some r from e1)
      rw [b]
      exact ⟨e2, by rw [show Flo.W r = _ from e3]; show Flo.W (wid x) * Flo.W (wid y) = _; rw [vx, vy]⟩
    · obtain ⟨r, e1, e2, e3⟩ := Flo.mul_fix Ieee.double (by decide) (wid x) (wid y) (wid y) nx ny ny
        (by show ra (Flo.W (wid x) * Flo.W (wid y)) = ra (Flo.W (wid y)); rw [vx, vy, h10, show S x * 0 = 0 by grind])
        (by rw [Flo.top_double]; show ra (Flo.W (wid y)) < _; rw [vy, h10, ra_pos (Rat.le_refl)]; grind)
      obtain ⟨c, b⟩ := Calm.of (show floatBits .mul .f64 (wid x) (wid y) = some r from e1)
      rw [b]
      exact ⟨e2, by rw [show Flo.W r = _ from e3]; show Flo.W (wid x) * Flo.W (wid y) = _; rw [vx, vy]⟩
  obtain ⟨m1, w1⟩ := mul1 a 1065353216 ha one_s.1 h1 (.inl one_s.2)
  obtain ⟨m2, w2⟩ := mul1 b 0 hb nil_s.1 h2 (.inr nil_s.2)
  obtain ⟨m3, w3⟩ := mul1 a 0 ha nil_s.1 h1 (.inr nil_s.2)
  obtain ⟨m4, w4⟩ := mul1 b 1065353216 hb one_s.1 h2 (.inl one_s.2)
  rw [one_s.2] at w1 w4
  rw [nil_s.2] at w2 w3
  have hA : ra (S a) < Flo.pw 1023 := by grind
  have hB : ra (S b) < Flo.pw 1023 := by grind
  have fs : ∀ x y z : Nat, Flo.Nm x → Flo.Nm y → Flo.Nm z → ra (Flo.W x - Flo.W y) = ra (Flo.W z) → ra (Flo.W z) < Flo.pw 1023 → ∃ r, floatBits .sub .f64 x y = some r ∧ Flo.Nm r ∧ Flo.W r = Flo.W x - Flo.W y :=
    fun x y z hx hy hz h hb => Flo.sub_fix Ieee.double (by decide) x y z hx hy hz h (by rw [Flo.top_double]; exact hb)
  have fa : ∀ x y z : Nat, Flo.Nm x → Flo.Nm y → Flo.Nm z → ra (Flo.W x + Flo.W y) = ra (Flo.W z) → ra (Flo.W z) < Flo.pw 1023 → ∃ r, floatBits .add .f64 x y = some r ∧ Flo.Nm r ∧ Flo.W r = Flo.W x + Flo.W y :=
    fun x y z hx hy hz h hb => Flo.add_fix Ieee.double (by decide) x y z hx hy hz h (by rw [Flo.top_double]; exact hb)
  obtain ⟨r, e1, e2, e3⟩ := fs (opB .mul .f64 (wid a) (wid 1065353216)) (opB .mul .f64 (wid b) (wid 0)) (wid a) m1 m2 na (by rw [w1, w2, va, show S a * 1 - S b * 0 = S a by grind]) (by rw [va]; exact hA)
  obtain ⟨r', e1', e2', e3'⟩ := fa (opB .mul .f64 (wid a) (wid 0)) (opB .mul .f64 (wid b) (wid 1065353216)) (wid b) m3 m4 nb (by rw [w3, w4, vb, show S a * 0 + S b * 1 = S b by grind]) (by rw [vb]; exact hB)
  have f1 : Flo.W r = S a := by rw [e3, w1, w2]; grind
  have f2 : Flo.W r' = S b := by rw [e3', w3, w4]; grind
  obtain ⟨c, b1⟩ := Calm.of e1
  obtain ⟨c', b1'⟩ := Calm.of e1'
  obtain ⟨g1, g2⟩ := Flo.nar_fix r a e2 ha (by rw [f1]) (by show ra (S a) < _; grind)
  obtain ⟨g3, g4⟩ := Flo.nar_fix r' b e2' hb (by rw [f2]) (by show ra (S b) < _; grind)
  unfold mulSre mulSim
  rw [b1, b1']
  exact ⟨g1, g3, by rw [show S (Flo.nar r) = _ from g2]; exact f1, by rw [show S (Flo.nar r') = _ from g4]; exact f2⟩
end Go.Proofs.YtnmjkjjmigiabaaGreatDoor

/- Boxes of two cells; rows of different types lie apart (split off XRoom).
   Conditions: those that each statement names. -/
namespace Go.Proofs.YtnmjkjjmigiabaaGreatDoor
set_option linter.unusedSimpArgs false
set_option linter.unusedVariables false
open Go Go.RowKit

theorem Kp.grown {c : Nat} {a w w1 : World} {row : Option Nat} (h : Kp c a w) (hg : w.grownBy w1 row) (hr : ∀ q, row = some q → a.heap.size ≤ q) : Kp c a w1 :=
  ⟨hg.os.trans h.os, hg.tape.trans h.tape, hg.output.trans h.output, Nat.le_trans h.size hg.size, fun i hi hne => (hg.block i (Nat.lt_of_lt_of_le hi h.size) (fun e => by have := hr i e.symm; omega)).trans (h.block i hi hne)⟩

theorem own_setne {w : World} {base : Nat} {E : TypeId} {size n : Nat} {v : Value} {xs : List Value} (h : w.ownsRow base E size v n xs) {p : Addr} (hne : v.ownBlock ≠ some p.block) (u : Value) : (w.setCell p u).ownsRow base E size v n xs :=
  h.kept (row := some p.block) ⟨rfl, rfl, rfl, by simp [World.setCell], fun k hk hne => Below.heap_setCell _ _ _ _ (fun e => hne (by rw [e]))⟩ (.inr hne)

/-! ### boxes of two cells -/
def Has2 (w : World) (b : Nat) (u v : Value) : Prop :=
  b < w.heap.size ∧ w.cell? ⟨b, 0, none⟩ = some u ∧ w.cell? ⟨b, 1, none⟩ = some v ∧ w.frozen? ⟨b, 0, none⟩ = false ∧ w.frozen? ⟨b, 1, none⟩ = false
theorem Has2.of {w w' : World} {b : Nat} {u v : Value} (h : Has2 w b u v) (hs : w.heap.size ≤ w'.heap.size) (hb : w'.heap[b]? = w.heap[b]?) : Has2 w' b u v := by
  obtain ⟨h0, h1, h2, h3, h4⟩ := h
  have k : ∀ p : Addr, p.block = b → w'.cell? p = w.cell? p := fun p hp => World.cell?_of_block (w := w) (by rw [hp]; exact hb)
  have f : ∀ p : Addr, p.block = b → w'.frozen? p = w.frozen? p := fun p hp => World.frozen?_of_block (w := w) (by rw [hp]; exact hb)
  exact ⟨by omega, by rw [k _ rfl]; exact h1, by rw [k _ rfl]; exact h2, by rw [f _ rfl]; exact h3, by rw [f _ rfl]; exact h4⟩
theorem Has2.kp {c : Nat} {w w' : World} {b : Nat} {u v : Value} (h : Has2 w b u v) (hk : Kp c w w') (hne : b ≠ c) : Has2 w' b u v := h.of hk.size (hk.block b h.1 (fun e => hne (by cases e; rfl)))
theorem Has2.nw {w w' : World} {b : Nat} {u v : Value} (h : Has2 w b u v) (hk : Nw w w') : Has2 w' b u v := h.of hk.size (hk.block b h.1 (by simp))
theorem Has2.grown {w w' : World} {b : Nat} {u v : Value} {row : Option Nat} (h : Has2 w b u v) (hk : w.grownBy w' row) (hr : row ≠ some b) : Has2 w' b u v := h.of hk.size (hk.block b h.1 (fun e => hr e.symm))
theorem Has2.alloc {w : World} {b : Nat} {u v : Value} (h : Has2 w b u v) (o : Obj) : Has2 (w.alloc o) b u v := h.nw ((Nw.refl _).alloc _)
theorem Has2.draw {w : World} {b : Nat} {u v : Value} (h : Has2 w b u v) (n : Nat) : Has2 (w.drewN n) b u v := h.nw ((Nw.refl _).draw _)
theorem Has2.set {w : World} {b : Nat} {u v : Value} (h : Has2 w b u v) {p : Addr} (hp : p.block ≠ b) (x : Value) : Has2 (w.setCell p x) b u v :=
  h.of (by simp [World.setCell]) (Below.heap_setCell _ _ _ _ (fun e => hp e.symm))
theorem Has2.new (w : World) (T : TypeId) (u v : Value) : Has2 (w.alloc (.cells #[u, v] T (0, 0))) w.heap.size u v := by
  refine ⟨by simp, ?_, ?_, ?_, ?_⟩ <;> go_simp
theorem Has2.set0 {w : World} {b : Nat} {u v : Value} (h : Has2 w b u v) (x : Value) : Has2 (w.setCell ⟨b, 0, none⟩ x) b x v := by
  obtain ⟨h0, h1, h2, h3, h4⟩ := h
  refine ⟨by simpa using h0, ?_, ?_, ?_, ?_⟩ <;> go_simp
theorem Has2.set1 {w : World} {b : Nat} {u v : Value} (h : Has2 w b u v) (x : Value) : Has2 (w.setCell ⟨b, 1, none⟩ x) b u x := by
  obtain ⟨h0, h1, h2, h3, h4⟩ := h
  refine ⟨by simpa using h0, ?_, ?_, ?_, ?_⟩ <;> go_simp

/-! ### rows of rows -/
theorem info_rows : (Tryz.prog.info? 35).map (fun i => (i.zero, i.size, i.bytes)) = some (some (.slice none 0 0), 1, 24) := by kernel_rfl
/-- rows in memory of different types lie in different blocks -/
theorem own_apart {w : World} {b b' : Nat} {E E' : TypeId} {size size' n n' : Nat} {v v' : Value} {xs xs' : List Value} (h : w.ownsRow b E size v n xs) (k : w.ownsRow b' E' size' v' n' xs') (hE : E ≠ E') : v.ownBlock = none ∨ v.ownBlock ≠ v'.ownBlock := by
  rcases h.2 with ⟨rfl, _⟩ | ⟨g, cap, cur, rfl, hb, hg, _⟩
  · exact .inl rfl
  · rcases k.2 with ⟨rfl, _⟩ | ⟨g', cap', cur', rfl, hb', hg', _⟩
    · right; simp [Value.ownBlock]
    · right
      intro e
      simp [Value.ownBlock] at e
      subst e
      rw [hg] at hg'
      injection hg' with hg'
      injection hg' with h1 h2 h3
      exact hE h2
end Go.Proofs.YtnmjkjjmigiabaaGreatDoor

/- The program's lineParts: the words of a line, one after another (FnExactParseScore).
   Conditions: those that each statement names. -/
namespace Go.Proofs.YtnmjkjjmigiabaaGreatDoor
set_option linter.unusedSimpArgs false
set_option linter.unusedVariables false
open Go Go.RowKit

theorem index_none (c : UInt8) : ∀ (l : List UInt8), c ∉ l → Lib.index l [c] = -1
  | [], _ => by unfold Lib.index; simp
  | b :: l, h => by
    have hb : b ≠ c := fun e => h (by rw [e]; exact List.mem_cons_self)
    have ih := index_none c l (fun e => h (List.mem_cons_of_mem _ e))
    unfold Lib.index
    have e : List.isPrefixOf [c] (b :: l) = false := by simp [List.isPrefixOf]; exact fun h => hb h.symm
    rw [e, ih]
    simp
theorem index_at (c : UInt8) : ∀ (p r : List UInt8), c ∉ p → Lib.index (p ++ c :: r) [c] = (p.length : Int)
  | [], r, _ => by
    show Lib.index (c :: r) [c] = 0
    unfold Lib.index
    simp [List.isPrefixOf]
  | b :: p, r, h => by
    have hb : b ≠ c := fun e => h (by rw [e]; exact List.mem_cons_self)
    have ih := index_at c p r (fun e => h (List.mem_cons_of_mem _ e))
    show Lib.index (b :: (p ++ c :: r)) [c] = _
    unfold Lib.index
    have e : List.isPrefixOf [c] (b :: (p ++ c :: r)) = false := by simp [List.isPrefixOf]; exact fun h => hb h.symm
    rw [e, ih]
    simp only [Bool.false_eq_true, if_false]
    rw [if_neg (by simp)]
    simp

/-- what is left of a line whose words to come are these -/
def Rst (r : List UInt8) (ps : List (List UInt8)) : Prop := (ps = [] ∧ r = []) ∨ spl 32 r = ps
theorem rst_cut {r : List UInt8} {ps : List (List UInt8)} (h : Rst r ps) : ∃ r', Lib.cut r [32] = (ps.headD [], r', !ps.tail.isEmpty) ∧ Rst r' ps.tail ∧ r'.length ≤ r.length ∧ (ps.headD []).length ≤ r.length := by
  have nil : Lib.cut [] [32] = ([], [], false) := by unfold Lib.cut Lib.index; simp
  rcases h with ⟨rfl, rfl⟩ | rfl
  · exact ⟨[], by rw [nil]; rfl, .inl ⟨rfl, rfl⟩, by simp, by simp⟩
  · by_cases hm : (32 : UInt8) ∈ r
    · obtain ⟨p, q, rfl, hp⟩ := List.eq_append_cons_of_mem hm
      have i := index_at 32 p q hp
      rw [spl_cut hp]
      refine ⟨q, ?_, .inr rfl, by simp; omega, by simp⟩
      have hne : (spl 32 q).isEmpty = false := by
        cases hs : spl 32 q with
        | nil => exact absurd hs (spl_ne 32 q)
        | cons => rfl
      unfold Lib.cut
      rw [i, if_pos (by omega)]
      simp [hne]
    · rw [spl_none hm]
      refine ⟨[], ?_, .inl ⟨rfl, rfl⟩, by simp, by simp⟩
      unfold Lib.cut
      rw [index_none 32 r hm]
      simp

/-- a box of three cells -/
def Has3 (w : World) (b : Nat) (x y z : Value) : Prop :=
  b < w.heap.size ∧ w.cell? ⟨b, 0, none⟩ = some x ∧ w.cell? ⟨b, 1, none⟩ = some y ∧ w.cell? ⟨b, 2, none⟩ = some z ∧ w.frozen? ⟨b, 0, none⟩ = false ∧ w.frozen? ⟨b, 1, none⟩ = false ∧ w.frozen? ⟨b, 2, none⟩ = false
theorem Has3.of {w w' : World} {b : Nat} {x y z : Value} (h : Has3 w b x y z) (hs : w.heap.size ≤ w'.heap.size) (hb : w'.heap[b]? = w.heap[b]?) : Has3 w' b x y z := by
  obtain ⟨h1, h2, h3, h4, h5, h6, h7⟩ := h
  refine ⟨by omega, ?_, ?_, ?_, ?_, ?_, ?_⟩
  · rw [← h2]; unfold World.cell?; rw [hb]
  · rw [← h3]; unfold World.cell?; rw [hb]
  · rw [← h4]; unfold World.cell?; rw [hb]
  · rw [← h5]; unfold World.frozen?; rw [hb]
  · rw [← h6]; unfold World.frozen?; rw [hb]
  · rw [← h7]; unfold World.frozen?; rw [hb]
theorem Has3.nw {w w' : World} {b : Nat} {x y z : Value} (h : Has3 w b x y z) (hk : Nw w w') : Has3 w' b x y z := h.of hk.size (hk.block b h.1 (by simp))

theorem Has3.set0 {w : World} {b : Nat} {x y z : Value} (h : Has3 w b x y z) (u : Value) : Has3 (w.setCell ⟨b, 0, none⟩ u) b u y z := by
  obtain ⟨h1, h2, h3, h4, h5, h6, h7⟩ := h
  refine ⟨by simpa using h1, ?_, ?_, ?_, ?_, ?_, ?_⟩ <;> go_simp
theorem Has3.set1 {w : World} {b : Nat} {x y z : Value} (h : Has3 w b x y z) (u : Value) : Has3 (w.setCell ⟨b, 1, none⟩ u) b x u z := by
  obtain ⟨h1, h2, h3, h4, h5, h6, h7⟩ := h
  refine ⟨by simpa using h1, ?_, ?_, ?_, ?_, ?_, ?_⟩ <;> go_simp
theorem Has3.set2 {w : World} {b : Nat} {x y z : Value} (h : Has3 w b x y z) (u : Value) : Has3 (w.setCell ⟨b, 2, none⟩ u) b x y u := by
  obtain ⟨h1, h2, h3, h4, h5, h6, h7⟩ := h
  refine ⟨by simpa using h1, ?_, ?_, ?_, ?_, ?_, ?_⟩ <;> go_simp

/-- the box holds a line of which these words are to come -/
def Lps (q : Nat) (ps : List (List UInt8)) (e f : Bool) (w : World) : Prop :=
  ∃ r : List UInt8, Rst r ps ∧ r.length ≤ 1048576 ∧ Has3 w q (.string ⟨r.toArray⟩) (.bool e) (.bool f)
set_option maxRecDepth 100000 in
theorem allRead_ok (q : Nat) (ps : List (List UInt8)) (e f : Bool) (w : World) (h : Lps q ps e f w) :
    Calls Tryz.prog 157 #[.pointer (some ⟨q, 0, none⟩)] w fun x w' => x = .returned (.bool (e && !f)) ∧ w' = w := by
  obtain ⟨r, hr, hl, x0, x1, x2, x3, x4, x5, x6⟩ := h
  clear hr hl
  cases e
  all_goals
    go_enter Tryz.func157, Tryz.ntmps157
    go_wp2_with fail
    go_ret
    exact ⟨rfl, rfl⟩
set_option maxRecDepth 100000 in
theorem word_ok (q : Nat) (ps : List (List UInt8)) (e f : Bool) (w : World) (hm0 : ∃ m, w.cell? ⟨3, 0, none⟩ = some (.int .i64 m)) (h : Lps q ps e f w) :
    Calls Tryz.prog 154 #[.pointer (some ⟨q, 0, none⟩)] w fun x w' => x = .returned (.string ⟨(ps.headD []).toArray⟩) ∧ (ps.headD []).length ≤ 1048576 ∧ Lps q ps.tail ps.tail.isEmpty f w' ∧ Kp q w w' := by
  obtain ⟨m0, hm0⟩ := hm0
  obtain ⟨r, hr, hl, H⟩ := h
  obtain ⟨r', hc, hr', hl', hp⟩ := rst_cut hr
  have C := Tryz.strings_Cut ⟨r.toArray⟩ ⟨#[32]⟩ m0 w (by show r.toArray.size < _; simp; omega) hm0
  have hc2 : Lib.cut (⟨r.toArray⟩ : ByteArray).data.toList (⟨#[32]⟩ : ByteArray).data.toList = (ps.headD [], r', !ps.tail.isEmpty) := by show Lib.cut r.toArray.toList [32] = _; rw [List.toList_toArray]; exact hc
  rw [hc2] at C
  have Cc := Lib.hid C
  have Hh := Lib.hid H
  have R := Lib.hid (And.intro hr' (And.intro (show r'.length ≤ 1048576 by omega) (show (ps.headD []).length ≤ 1048576 by omega)))
  obtain ⟨x0, x1, x2, x3, x4, x5, x6⟩ := H
  obtain ⟨p, hpp⟩ : ∃ p, p = ps.headD [] := ⟨_, rfl⟩
  obtain ⟨b, hb⟩ : ∃ b, b = ps.tail.isEmpty := ⟨_, rfl⟩
  rw [← hpp, ← hb] at Cc
  rw [← hpp] at R
  rw [← hpp, ← hb]
  clear hm0 hr hl hc hr' hl' hp C hc2 hpp hb
  go_enter Tryz.func154, Tryz.ntmps154
  go_wp2_with fail
  refine Cc.out.mono ?_
  rintro e1 w1 ⟨rfl, n1, rfl⟩
  go_wp2_with fail
  go_ret
  refine ⟨rfl, R.out.2.2, ⟨r', R.out.1, R.out.2.1, ((Hh.out.set0 (.string ⟨r'.toArray⟩)).set1 (.bool b)).nw ((Nw.refl _).draw n1)⟩, (((Kp.refl q w).set 0 _).set 1 _).draw n1⟩

/-! ### whole numbers -/
/-- the text of a whole number -/
def IntT (p : List UInt8) (n : Int) : Prop := n.natAbs < 10 ^ 16 ∧ p = byts (numL n)
theorem intT_val {p : List UInt8} {n m : Int} (h : IntT p n) (k : IntT p m) : n = m := by
  have a := atoi_ok n (by have := h.1; omega)
  have b := atoi_ok m (by have := k.1; omega)
  rw [← h.2] at a
  rw [← k.2, a] at b
  injection b
theorem atoi_range {l : List UInt8} {v : Int} (h : Lib.atoiAll l = .ok v) : -9223372036854775808 ≤ v ∧ v ≤ 9223372036854775807 := by
  unfold Lib.atoiAll at h
  cases l with
  | nil => cases h
  | cons c r =>
    simp only at h
    generalize Lib.parseMag (if c.toNat = 43 ∨ c.toNat = 45 then r else c :: r) = u at h
    match u, h with
    | Lib.NumEnd.syntax, h => cases h
    | .range, h => cases h
    | .ok u, h =>
      simp only at h
      split at h
      · cases h
      · split at h
        · cases h
        · injection h with h
          split at h <;> omega
def PiP (p : List UInt8) (w : World) (e : Ending) (w' : World) : Prop :=
  Nw w w' ∧ ((∃ n, e = .returned (.tuple #[.int .i64 n, .bool true]) ∧ (IntT p n ∨ (10 ^ 16 ≤ n.natAbs ∧ ∀ m, ¬ IntT p m))) ∨ ((∀ m, ¬ IntT p m) ∧ e = .returned (.tuple #[.int .i64 0, .bool false])))
set_option maxRecDepth 100000 in
theorem parseInteger_any (s : ByteArray) (hs : s.size ≤ 1048576) (w : World) (hL : LibW w) :
    Calls Tryz.prog 195 #[.string s] w (PiP s.data.toList w) := by
  have A := Lib.hid (atoi_any s hs w hL)
  have L := Lib.hid hL
  clear hL
  go_enter Tryz.func195, Tryz.ntmps195
  go_wp2_with fail
  refine A.out.mono ?_
  rintro e w1 ⟨n1, ⟨v, hr, rfl⟩ | ⟨v, b, hr, rfl⟩⟩
  · have N1 := Lib.hid n1
    have Hr := Lib.hid hr
    have V := Lib.hid (atoi_range hr)
    clear n1 hr
    have I := Lib.hid (Tryz.strconv_Itoa v V.out.1 V.out.2 w1 (L.out.nw N1.out).2.1)
    have Ti := Lib.hid (itoa_str v (by have := V.out; omega))
    by_cases he : s = strOfNums (numL v)
    · have He := Lib.hid he
      clear he
      go_wp2_with fail
      refine I.out.mono ?_
      rintro e w2 ⟨rfl, k, os, rfl⟩
      rw [Ti.out, ← He.out]
      go_wp2_with fail
      go_ret2
      refine ⟨N1.out.trans (((Nw.refl w1).draw k).trans (nw_grow _ os)), .inl ⟨v, rfl, ?_⟩⟩
      by_cases hb : v.natAbs < 10 ^ 16
      · exact .inl ⟨hb, by rw [He.out]; rfl⟩
      · refine .inr ⟨by omega, fun m hm => ?_⟩
        have e := atoi_ok m (by have := hm.1; omega)
        rw [← hm.2, Hr.out] at e
        injection e with e
        rw [e] at hb
        exact hb hm.1
    · have hne : ((strOfNums (numL v)).toList == s.toList) = false := by
        cases hq : ((strOfNums (numL v)).toList == s.toList) with
        | false => rfl
        | true =>
          exfalso
          have h2 : (strOfNums (numL v)).toList = s.toList := by simpa using hq
          rw [ByteArray.toList_eq, ByteArray.toList_eq] at h2
          exact he (by apply ByteArray.ext; apply Array.ext'; exact h2.symm)
      have He := Lib.hid he
      clear he
      go_wp2_with fail
      refine I.out.mono ?_
      rintro e w2 ⟨rfl, k, os, rfl⟩
      rw [Ti.out]
      go_wp2_with fail
      go_ret2
      refine ⟨N1.out.trans (((Nw.refl w1).draw k).trans (nw_grow _ os)), .inr ⟨fun m hm => ?_, rfl⟩⟩
      have e := atoi_ok m (by have := hm.1; omega)
      rw [← hm.2, Hr.out] at e
      injection e with e
      subst e
      have h2 := hm.2
      exact He.out (by apply ByteArray.ext; apply Array.ext'; exact h2)
  · have N1 := Lib.hid n1
    have Hr := Lib.hid hr
    clear n1 hr
    go_wp2_with fail
    go_ret2
    exact ⟨N1.out, .inr ⟨fun m hm => Hr.out m (by rw [hm.2]; exact atoi_ok m (by have := hm.1; omega)), rfl⟩⟩

theorem kp_nw {c : Nat} {w w' : World} (h : Nw w w') : Kp c w w' := ⟨h.os, h.tape, h.output, h.size, fun i hi _ => h.block i hi (by simp)⟩
theorem nw_kp {w0 w w' : World} {c : Nat} (h : Nw w0 w) (k : Kp c w w') (hc : w0.heap.size ≤ c) : Nw w0 w' :=
  ⟨k.os.trans h.os, k.tape.trans h.tape, k.output.trans h.output, Nat.le_trans h.size k.size, fun i hi hne => (k.block i (Nat.lt_of_lt_of_le hi h.size) (by simp; omega)).trans (h.block i hi hne)⟩
theorem Lps.nw {q : Nat} {ps : List (List UInt8)} {e f : Bool} {w w' : World} (h : Lps q ps e f w) (k : Nw w w') : Lps q ps e f w' := by
  obtain ⟨r, a, b, c⟩ := h
  exact ⟨r, a, b, c.nw k⟩
/-- a whole number is read of the next word, or the line has failed -/
def IgP (w0 : World) (q : Nat) (p : List UInt8) (t : List (List UInt8)) (f : Bool) (w : World) (x : Ending) (w' : World) : Prop :=
  ∃ (n : Int) (ok : Bool), x = .returned (.int .i64 n) ∧ Lps q t t.isEmpty (f || !ok) w' ∧ Nw w0 w' ∧ Kp q w w' ∧
    ((ok = true ∧ (IntT p n ∨ (10 ^ 16 ≤ n.natAbs ∧ ∀ m, ¬ IntT p m))) ∨ (ok = false ∧ n = 0 ∧ ∀ m, ¬ IntT p m))
set_option maxRecDepth 100000 in
theorem integer_ok (w0 : World) (hL : LibW w0) (q : Nat) (hq : w0.heap.size ≤ q) (ps : List (List UInt8)) (e f : Bool) (w : World) (hw : Nw w0 w) (h : Lps q ps e f w) :
    Calls Tryz.prog 155 #[.pointer (some ⟨q, 0, none⟩)] w (IgP w0 q (ps.headD []) ps.tail f w) := by
  have W := Lib.hid (word_ok q ps e f w (hL.nw hw).2.2.2.2 h)
  have L := Lib.hid (And.intro hL hw)
  obtain ⟨p, hp⟩ : ∃ p, p = ps.headD [] := ⟨_, rfl⟩
  obtain ⟨t, ht⟩ : ∃ t, t = ps.tail := ⟨_, rfl⟩
  rw [← hp, ← ht] at W ⊢
  clear h hL hw hp ht
  go_enter Tryz.func155, Tryz.ntmps155
  go_wp2_with fail
  refine W.out.mono ?_
  rintro x w1 ⟨rfl, hl, h1, k1⟩
  have P1 := Lib.hid h1
  have K1 := Lib.hid k1
  have N1 := Lib.hid (nw_kp L.out.2 k1 hq)
  clear h1 k1
  go_wp2_with fail
  refine (parseInteger_any ⟨p.toArray⟩ (by show p.toArray.size ≤ _; rw [List.size_toArray]; exact hl) _ (L.out.1.nw N1.out)).mono ?_
  rintro x w2 ⟨n2, hx⟩
  have P2 := Lib.hid (P1.out.nw n2)
  have K2 := Lib.hid (K1.out.trans (kp_nw n2))
  have N2 := Lib.hid (N1.out.trans n2)
  clear n2
  obtain ⟨r, hr, hrl, H⟩ := P2.out
  have R := Lib.hid (And.intro hr hrl)
  have Hh := Lib.hid H
  clear hr hrl
  obtain ⟨x0, x1, x2, x3, x4, x5, x6⟩ := H
  rcases hx with ⟨n, rfl, hn⟩ | ⟨hn, rfl⟩
  · have Hn := Lib.hid hn
    clear hn
    cases f
    all_goals
      go_wp2_with fail
      go_ret
      refine ⟨n, true, rfl, ⟨r, R.out.1, R.out.2, ?_⟩, ?_, ?_, .inl ⟨rfl, Hn.out⟩⟩
      · exact Hh.out.set2 _
      · exact nw_kp N2.out ((Kp.refl q w2).set 2 _) hq
      · exact K2.out.set 2 _
  · have Hn := Lib.hid hn
    clear hn
    cases f
    all_goals
      go_wp2_with fail
      go_ret
      refine ⟨0, false, rfl, ⟨r, R.out.1, R.out.2, ?_⟩, ?_, ?_, .inr ⟨rfl, rfl, Hn.out⟩⟩
      · exact Hh.out.set2 _
      · exact nw_kp N2.out ((Kp.refl q w2).set 2 _) hq
      · exact K2.out.set 2 _
/-- a number of single precision is read of the next word, or the line has failed -/
def SgP (w0 : World) (q : Nat) (p : List UInt8) (t : List (List UInt8)) (f : Bool) (w : World) (x : Ending) (w' : World) : Prop :=
  ∃ (r : Nat) (ok : Bool), x = .returned (.float .f32 r) ∧ Lps q t t.isEmpty (f || !ok) w' ∧ Nw w0 w' ∧ Kp q w w' ∧
    ((ok = true ∧ TxS p r) ∨ (ok = false ∧ r = 0 ∧ ∀ m, ¬ TxS p m))
set_option maxRecDepth 100000 in
theorem single_ok (w0 : World) (hL : LibW w0) (q : Nat) (hq : w0.heap.size ≤ q) (ps : List (List UInt8)) (e f : Bool) (w : World) (hw : Nw w0 w) (h : Lps q ps e f w) :
    Calls Tryz.prog 156 #[.pointer (some ⟨q, 0, none⟩)] w (SgP w0 q (ps.headD []) ps.tail f w) := by
  have W := Lib.hid (word_ok q ps e f w (hL.nw hw).2.2.2.2 h)
  have L := Lib.hid (And.intro hL hw)
  obtain ⟨p, hp⟩ : ∃ p, p = ps.headD [] := ⟨_, rfl⟩
  obtain ⟨t, ht⟩ : ∃ t, t = ps.tail := ⟨_, rfl⟩
  rw [← hp, ← ht] at W ⊢
  clear h hL hw hp ht
  go_enter Tryz.func156, Tryz.ntmps156
  go_wp2_with fail
  refine W.out.mono ?_
  rintro x w1 ⟨rfl, hl, h1, k1⟩
  have P1 := Lib.hid h1
  have K1 := Lib.hid k1
  have N1 := Lib.hid (nw_kp L.out.2 k1 hq)
  clear h1 k1
  go_wp2_with fail
  refine (implSingle ⟨p.toArray⟩ (by show p.toArray.size ≤ _; rw [List.size_toArray]; exact hl) _ (L.out.1.nw N1.out)).mono ?_
  rintro x w2 ⟨n2, hx⟩
  have P2 := Lib.hid (P1.out.nw n2)
  have K2 := Lib.hid (K1.out.trans (kp_nw n2))
  have N2 := Lib.hid (N1.out.trans n2)
  clear n2
  obtain ⟨r, hr, hrl, H⟩ := P2.out
  have R := Lib.hid (And.intro hr hrl)
  have Hh := Lib.hid H
  clear hr hrl
  obtain ⟨x0, x1, x2, x3, x4, x5, x6⟩ := H
  rcases hx with ⟨n, hn1, hn2, hn3, rfl⟩ | ⟨hn, rfl⟩
  · have Hn := Lib.hid (show TxS p n from ⟨hn1, hn2, hn3⟩)
    clear hn1 hn2 hn3
    cases f
    all_goals
      go_wp2_with fail
      go_ret
      refine ⟨n, true, rfl, ⟨r, R.out.1, R.out.2, ?_⟩, ?_, ?_, .inl ⟨rfl, Hn.out⟩⟩
      · exact Hh.out.set2 _
      · exact nw_kp N2.out ((Kp.refl q w2).set 2 _) hq
      · exact K2.out.set 2 _
  · have Hn := Lib.hid (show ∀ m, ¬ TxS p m from fun m hm => hn m hm.1 hm.2.1 hm.2.2)
    clear hn
    cases f
    all_goals
      go_wp2_with fail
      go_ret
      refine ⟨0, false, rfl, ⟨r, R.out.1, R.out.2, ?_⟩, ?_, ?_, .inr ⟨rfl, rfl, Hn.out⟩⟩
      · exact Hh.out.set2 _
      · exact nw_kp N2.out ((Kp.refl q w2).set 2 _) hq
      · exact K2.out.set 2 _
end Go.Proofs.YtnmjkjjmigiabaaGreatDoor

/- The program's readHead: the first line of a score (FnExactParseScore).
   Conditions: those that each statement names. -/
namespace Go.Proofs.YtnmjkjjmigiabaaGreatDoor
set_option linter.unusedSimpArgs false
set_option linter.unusedVariables false
open Go Go.RowKit

theorem Has3.new (w : World) (T : TypeId) (x y z : Value) : Has3 (w.alloc (.cells #[x, y, z] T (0, 0))) w.heap.size x y z := by
  refine ⟨by simp, ?_, ?_, ?_, ?_, ?_, ?_⟩ <;> go_simp
/-- a box of six cells: a Score -/
def Has6 (w : World) (b : Nat) (x0 x1 x2 x3 x4 x5 : Value) : Prop :=
  b < w.heap.size ∧ (w.cell? ⟨b, 0, none⟩ = some x0 ∧ w.cell? ⟨b, 1, none⟩ = some x1 ∧ w.cell? ⟨b, 2, none⟩ = some x2 ∧ w.cell? ⟨b, 3, none⟩ = some x3 ∧ w.cell? ⟨b, 4, none⟩ = some x4 ∧ w.cell? ⟨b, 5, none⟩ = some x5) ∧
    (w.frozen? ⟨b, 0, none⟩ = false ∧ w.frozen? ⟨b, 1, none⟩ = false ∧ w.frozen? ⟨b, 2, none⟩ = false ∧ w.frozen? ⟨b, 3, none⟩ = false ∧ w.frozen? ⟨b, 4, none⟩ = false ∧ w.frozen? ⟨b, 5, none⟩ = false)
theorem Has6.of {w w' : World} {b : Nat} {x0 x1 x2 x3 x4 x5 : Value} (h : Has6 w b x0 x1 x2 x3 x4 x5) (hs : w.heap.size ≤ w'.heap.size) (hb : w'.heap[b]? = w.heap[b]?) : Has6 w' b x0 x1 x2 x3 x4 x5 := by
  have c : ∀ o, w'.cell? ⟨b, o, none⟩ = w.cell? ⟨b, o, none⟩ := fun o => by unfold World.cell?; rw [hb]
  have f : ∀ o, w'.frozen? ⟨b, o, none⟩ = w.frozen? ⟨b, o, none⟩ := fun o => by unfold World.frozen?; rw [hb]
  unfold Has6 at h ⊢
  rw [c, c, c, c, c, c, f, f, f, f, f, f]
  exact ⟨Nat.lt_of_lt_of_le h.1 hs, h.2⟩
theorem Has6.nw {w w' : World} {b : Nat} {x0 x1 x2 x3 x4 x5 : Value} (h : Has6 w b x0 x1 x2 x3 x4 x5) (hk : Nw w w') : Has6 w' b x0 x1 x2 x3 x4 x5 := h.of hk.size (hk.block b h.1 (by simp))
theorem Has6.kp {c : Nat} {w w' : World} {b : Nat} {x0 x1 x2 x3 x4 x5 : Value} (h : Has6 w b x0 x1 x2 x3 x4 x5) (hk : Kp c w w') (hne : b ≠ c) : Has6 w' b x0 x1 x2 x3 x4 x5 := h.of hk.size (hk.block b h.1 (fun e => hne (by cases e; rfl)))
theorem Has6.new (w : World) (T : TypeId) (x0 x1 x2 x3 x4 x5 : Value) : Has6 (w.alloc (.cells #[x0, x1, x2, x3, x4, x5] T (0, 0))) w.heap.size x0 x1 x2 x3 x4 x5 := by
  refine ⟨by simp, ⟨?_, ?_, ?_, ?_, ?_, ?_⟩, ?_, ?_, ?_, ?_, ?_, ?_⟩ <;> go_simp
def wScore : List UInt8 := [115, 99, 111, 114, 101]
/-- the first line of a score -/
def HeadT (l : List UInt8) (L V : Int) (c r : Nat) : Prop := ∃ t1 t2 t3 t4, spl 32 l = [wScore, t1, t2, t3, t4] ∧ IntT t1 L ∧ IntT t2 V ∧ TxS t3 c ∧ TxS t4 r
def HdP (l : List UInt8) (w : World) (e : Ending) (w' : World) : Prop :=
  Nw w w' ∧ ∃ (L V : Int) (c r : Nat) (ok : Bool), e = .returned (.tuple #[.agg #[.int .i64 L, .int .i64 V, .float .f32 c, .float .f32 r, .slice none 0 0, .slice none 0 0], .bool ok]) ∧
    ((ok = true ∧ (HeadT l L V c r ∨ (10 ^ 16 ≤ L.natAbs ∨ 10 ^ 16 ≤ V.natAbs) ∧ ∀ L V c r, ¬ HeadT l L V c r)) ∨ (ok = false ∧ ∀ L V c r, ¬ HeadT l L V c r))
end Go.Proofs.YtnmjkjjmigiabaaGreatDoor

/- The walk of readHead (FnExactParseScore).
   Conditions: those that each statement names. -/
namespace Go.Proofs.YtnmjkjjmigiabaaGreatDoor
set_option linter.unusedSimpArgs false
set_option linter.unusedVariables false
open Go Go.RowKit

theorem txS_empty (r : Nat) : ¬ TxS [] r := by
  rintro ⟨-, -, hy, fy, ys, ty, e⟩
  have hb : byts ys = [] := by rw [← byts_str, ← e]
  have h0 : ys = [] := by unfold byts at hb; simpa using hb
  subst h0
  rcases ty with ⟨h, _⟩ | ⟨_, h⟩ | ⟨_, h⟩ | ⟨sg, m, p, a, q, b1, b2, b3, b4, b5, b6, b7, h⟩
  · rw [fy] at h; cases h
  · cases h
  · cases h
  · have := congrArg List.length h
    simp at this
def IoK (p : List UInt8) (n : Int) (ok : Bool) : Prop := (ok = true ∧ (IntT p n ∨ (10 ^ 16 ≤ n.natAbs ∧ ∀ m, ¬ IntT p m))) ∨ (ok = false ∧ n = 0 ∧ ∀ m, ¬ IntT p m)
def SoK (p : List UInt8) (r : Nat) (ok : Bool) : Prop := (ok = true ∧ TxS p r) ∨ (ok = false ∧ r = 0 ∧ ∀ m, ¬ TxS p m)
theorem IoK.yes {p : List UInt8} {n m : Int} {ok : Bool} (h : IoK p n ok) (k : IntT p m) : ok = true := by
  rcases h with h | h
  · exact h.1
  · exact absurd k (h.2.2 m)
theorem SoK.yes {p : List UInt8} {n m : Nat} {ok : Bool} (h : SoK p n ok) (k : TxS p m) : ok = true := by
  rcases h with h | h
  · exact h.1
  · exact absurd k (h.2.2 m)
theorem head_end {l : List UInt8} {ps : List (List UInt8)} {L V : Int} {c r : Nat} {o1 o2 o3 o4 : Bool} (hw : spl 32 l = wScore :: ps)
    (x1 : IoK (ps.headD []) L o1) (x2 : IoK (ps.tail.headD []) V o2) (x3 : SoK (ps.tail.tail.headD []) c o3) (x4 : SoK (ps.tail.tail.tail.headD []) r o4) (ok : Bool) (hok : ok = (ps.tail.tail.tail.tail.isEmpty && (o1 && o2 && o3 && o4))) :
    (ok = true ∧ (HeadT l L V c r ∨ (10 ^ 16 ≤ L.natAbs ∨ 10 ^ 16 ≤ V.natAbs) ∧ ∀ L V c r, ¬ HeadT l L V c r)) ∨ (ok = false ∧ ∀ L V c r, ¬ HeadT l L V c r) := by
  have form : ∀ {L V c r}, HeadT l L V c r → ∃ t1 t2 t3 t4, ps = [t1, t2, t3, t4] ∧ IntT t1 L ∧ IntT t2 V ∧ TxS t3 c ∧ TxS t4 r := by
    rintro L V c r ⟨t1, t2, t3, t4, e, k⟩
    rw [hw] at e
    injection e with _ e
    exact ⟨t1, t2, t3, t4, e, k⟩
  cases hb : ok with
  | false =>
    refine .inr ⟨rfl, fun L' V' c' r' h => ?_⟩
    obtain ⟨t1, t2, t3, t4, rfl, k1, k2, k3, k4⟩ := form h
    rw [hb, x1.yes k1, x2.yes k2, x3.yes k3, x4.yes k4] at hok
    cases hok
  | true =>
    rw [hb] at hok
    have hs := hok.symm
    simp only [Bool.and_eq_true] at hs
    obtain ⟨he, ⟨⟨rfl, rfl⟩, rfl⟩, rfl⟩ := hs
    have y4 : TxS (ps.tail.tail.tail.headD []) r := by rcases x4 with h | h; exact h.2; cases h.1
    have y3 : TxS (ps.tail.tail.headD []) c := by rcases x3 with h | h; exact h.2; cases h.1
    have y1 : IntT (ps.headD []) L ∨ (10 ^ 16 ≤ L.natAbs ∧ ∀ m, ¬ IntT (ps.headD []) m) := by rcases x1 with h | h; exact h.2; cases h.1
    have y2 : IntT (ps.tail.headD []) V ∨ (10 ^ 16 ≤ V.natAbs ∧ ∀ m, ¬ IntT (ps.tail.headD []) m) := by rcases x2 with h | h; exact h.2; cases h.1
    rcases ps with _ | ⟨t1, _ | ⟨t2, _ | ⟨t3, _ | ⟨t4, _ | ⟨t5, ts⟩⟩⟩⟩⟩
    · exact absurd y4 (txS_empty r)
    · exact absurd y4 (txS_empty r)
    · exact absurd y4 (txS_empty r)
    · exact absurd y4 (txS_empty r)
    · left
      refine ⟨rfl, ?_⟩
      rcases y1 with z1 | z1
      · rcases y2 with z2 | z2
        · exact .inl ⟨t1, t2, t3, t4, hw, z1, z2, y3, y4⟩
        · refine .inr ⟨.inr z2.1, fun L' V' c' r' h => ?_⟩
          obtain ⟨u1, u2, u3, u4, e, k1, k2, -⟩ := form h
          cases e
          exact z2.2 _ k2
      · refine .inr ⟨.inl z1.1, fun L' V' c' r' h => ?_⟩
        obtain ⟨u1, u2, u3, u4, e, k1, -⟩ := form h
        cases e
        exact z1.2 _ k1
    · simp at he
theorem Lps.set {q : Nat} {ps : List (List UInt8)} {e f : Bool} {w : World} {p : Addr} (u : Value) (hp : p.block ≠ q) (h : Lps q ps e f w) : Lps q ps e f (w.setCell p u) := by
  obtain ⟨r, a, b, c⟩ := h
  exact ⟨r, a, b, c.of (by simp [World.setCell]) (Below.heap_setCell _ _ _ _ (fun e => hp e.symm))⟩
set_option maxHeartbeats 3200000 in
set_option maxRecDepth 100000 in
theorem readHead_any (l : List UInt8) (hl : l.length ≤ 1048576) (w : World) (hL : LibW w) :
    Calls Tryz.prog 95 #[.string ⟨l.toArray⟩] w (HdP l w) := by
  have L0 := Lib.hid hL
  obtain ⟨p, ps, hws⟩ : ∃ p ps, spl 32 l = p :: ps := by
    cases h : spl 32 l with
    | nil => exact absurd h (spl_ne 32 l)
    | cons p ps => exact ⟨p, ps, rfl⟩
  have Hws := Lib.hid hws
  have N0 := Lib.hid (((Nw.refl w).alloc (.cells #[.int .i64 0, .int .i64 0, .float .f32 0, .float .f32 0, .slice none 0 0, .slice none 0 0] 68 (0, 0))).alloc (.cells #[.string ⟨l.toArray⟩, .bool false, .bool false] 184 (0, 0)))
  have B0 := Lib.hid ((Has6.new w 68 (.int .i64 0) (.int .i64 0) (.float .f32 0) (.float .f32 0) (.slice none 0 0) (.slice none 0 0)).nw ((Nw.refl _).alloc (.cells #[.string ⟨l.toArray⟩, .bool false, .bool false] 184 (0, 0))))
  have P0 := Lib.hid (show Lps (w.heap.size + 1) (p :: ps) false false _ from ⟨l, .inr hws, hl, by
    have h := Has3.new (w.alloc (.cells #[.int .i64 0, .int .i64 0, .float .f32 0, .float .f32 0, .slice none 0 0, .slice none 0 0] 68 (0, 0))) 184 (.string ⟨l.toArray⟩) (.bool false) (.bool false)
    rw [show (w.alloc (.cells #[.int .i64 0, .int .i64 0, .float .f32 0, .float .f32 0, .slice none 0 0, .slice none 0 0] 68 (0, 0))).heap.size = w.heap.size + 1 from by simp] at h
    exact h⟩)
  clear hL hws hl
  go_enter Tryz.func95, Tryz.ntmps95
  go_wp2_with fail
  obtain ⟨q, hq⟩ : ∃ q, q = w.heap.size + 1 := ⟨_, rfl⟩
  rw [← hq] at P0 ⊢
  have hwq : w.heap.size ≤ q := by omega
  have hne : w.heap.size ≠ q := by omega
  clear hq
  refine (word_ok q (p :: ps) false false _ (L0.out.nw N0.out).2.2.2.2 P0.out).mono ?_
  rintro x w1 ⟨rfl, hpl, h1, k1⟩
  have P1 := Lib.hid (show Lps q ps ps.isEmpty false w1 from h1)
  have N1 := Lib.hid (nw_kp N0.out k1 hwq)
  have B1 := Lib.hid (B0.out.kp k1 hne)
  clear h1 k1 hpl
  obtain ⟨b0, ⟨b1, b2, b3, b4, b5, b6⟩, b7, b8, b9, b10, b11, b12⟩ := B1.out
  simp only [List.headD_cons]
  by_cases hp : p = wScore
  · subst hp
    go_wp2_with fail
    refine (integer_ok w L0.out q hwq ps _ _ w1 N1.out P1.out).mono ?_
    rintro x w2 ⟨L, o1, rfl, h2, n2, k2, hx1⟩
    have P2 := Lib.hid h2
    have N2 := Lib.hid n2
    have B2 := Lib.hid (B1.out.kp k2 hne)
    have X1 := Lib.hid hx1
    clear h2 n2 k2 hx1 b0 b1 b2 b3 b4 b5 b6 b7 b8 b9 b10 b11 b12
    go_wp2_with fail
    refine (integer_ok w L0.out q hwq ps.tail _ _ w2 N2.out P2.out).mono ?_
    rintro x w3 ⟨V, o2, rfl, h3, n3, k3, hx2⟩
    have P3 := Lib.hid h3
    have N3 := Lib.hid n3
    have B3 := Lib.hid (B2.out.kp k3 hne)
    have X2 := Lib.hid hx2
    clear h3 n3 k3 hx2
    go_wp2_with fail
    refine (single_ok w L0.out q hwq ps.tail.tail _ _ w3 N3.out P3.out).mono ?_
    rintro x w4 ⟨c, o3, rfl, h4, n4, k4, hx3⟩
    have P4 := Lib.hid h4
    have N4 := Lib.hid n4
    have B4 := Lib.hid (B3.out.kp k4 hne)
    have X3 := Lib.hid hx3
    clear h4 n4 k4 hx3
    go_wp2_with fail
    refine (single_ok w L0.out q hwq ps.tail.tail.tail _ _ w4 N4.out P4.out).mono ?_
    rintro x w5 ⟨r, o4, rfl, h5, n5, k5, hx4⟩
    have P5 := Lib.hid h5
    have N5 := Lib.hid n5
    have B5 := Lib.hid (B4.out.kp k5 hne)
    have X4 := Lib.hid hx4
    clear h5 n5 k5 hx4
    go_upto_region 5 with fail
    have AA := Lib.hid (show Nw w5 (w5.alloc (.cells #[.int .i64 L, .int .i64 V, .float .f32 c, .float .f32 r, .slice none 0 0, .slice none 0 0] 68 (0, 0))) from (Nw.refl _).alloc _)
    have PA := Lib.hid (P5.out.nw AA.out)
    have BA := Lib.hid (B5.out.nw AA.out)
    have SA := Lib.hid (Has6.new w5 68 (.int .i64 L) (.int .i64 V) (.float .f32 c) (.float .f32 r) (.slice none 0 0) (.slice none 0 0))
    have NA := Lib.hid (N5.out.trans AA.out)
    have hlt5 := Lib.hid B5.out.1
    have hne5 : w.heap.size ≠ w5.heap.size := by have := hlt5.out; omega
    obtain ⟨k5, hk5⟩ : ∃ k5, k5 = w5.heap.size := ⟨_, rfl⟩
    rw [← hk5] at SA hne5 ⊢
    obtain ⟨W, hW⟩ : ∃ W, W = w5.alloc (.cells #[.int .i64 L, .int .i64 V, .float .f32 c, .float .f32 r, .slice none 0 0, .slice none 0 0] 68 (0, 0)) := ⟨_, rfl⟩
    rw [← hW] at PA BA SA NA ⊢
    clear hW hk5 AA
    obtain ⟨b0, ⟨b1, b2, b3, b4, b5, b6⟩, b7, b8, b9, b10, b11, b12⟩ := BA.out
    obtain ⟨s0, ⟨s1, s2, s3, s4, s5, s6⟩, s7, s8, s9, s10, s11, s12⟩ := SA.out
    go_region_with (go_at_call 157; refine (allRead_ok q _ _ _ _ (by repeat (first | exact PA.out | exact PA.out.nw ((Nw.refl _).draw 1) | refine Lps.set _ (by exact hne) ?_))).mono ?_; rintro e w' ⟨rfl, rfl⟩)
    all_goals
      go_wp2_with fail
      refine bodyPost_ret (v := .tuple #[.agg #[.int .i64 L, .int .i64 V, .float .f32 c, .float .f32 r, .slice none 0 0, .slice none 0 0], .bool (ps.tail.tail.tail.tail.isEmpty && (o1 && o2 && o3 && o4))]) (by simp [results, Tryz.results95, go_sem, b0, b1, b2, b3, b4, b5, b6, b7, b8, b9, b10, b11, b12]) rfl
        ⟨?_, L, V, c, r, _, rfl, head_end Hws.out X1.out X2.out X3.out X4.out _ rfl⟩
      first
        | exact ((((((NA.out.set (by exact Nat.le_refl w.heap.size) _).set (by exact Nat.le_refl w.heap.size) _).set (by exact Nat.le_refl w.heap.size) _).set (by exact Nat.le_refl w.heap.size) _).set (by exact Nat.le_refl w.heap.size) _).set (by exact Nat.le_refl w.heap.size) _).draw 1
        | exact (((((((NA.out.draw 1).set (by exact Nat.le_refl w.heap.size) _).set (by exact Nat.le_refl w.heap.size) _).set (by exact Nat.le_refl w.heap.size) _).set (by exact Nat.le_refl w.heap.size) _).set (by exact Nat.le_refl w.heap.size) _).set (by exact Nat.le_refl w.heap.size) _)
  · have hp0 : ¬ p = [115, 99, 111, 114, 101] := hp
    have hp1 : (p == [115, 99, 111, 114, 101]) = false := by simpa using hp0
    have hp2 : ((⟨p.toArray⟩ : ByteArray).toList == [115, 99, 111, 114, 101]) = false := by
      rw [ByteArray.toList_eq]
      simpa using hp0
    go_wp2_with fail
    refine bodyPost_ret (v := .tuple #[.agg #[.int .i64 0, .int .i64 0, .float .f32 0, .float .f32 0, .slice none 0 0, .slice none 0 0], .bool false]) (by simp [results, Tryz.results95, go_sem, b0, b1, b2, b3, b4, b5, b6, b7, b8, b9, b10, b11, b12]) rfl
      ⟨(((((N1.out.set (by exact Nat.le_refl w.heap.size) _).set (by exact Nat.le_refl w.heap.size) _).set (by exact Nat.le_refl w.heap.size) _).set (by exact Nat.le_refl w.heap.size) _).set (by exact Nat.le_refl w.heap.size) _).set (by exact Nat.le_refl w.heap.size) _,
        0, 0, 0, 0, false, rfl, .inr ⟨rfl, ?_⟩⟩
    rintro L V c r ⟨t1, t2, t3, t4, e, -⟩
    rw [Hws.out] at e
    injection e with e
    exact hp e
end Go.Proofs.YtnmjkjjmigiabaaGreatDoor
