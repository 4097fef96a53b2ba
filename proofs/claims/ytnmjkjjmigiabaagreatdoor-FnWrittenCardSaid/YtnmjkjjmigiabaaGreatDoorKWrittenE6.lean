/- Texts of a proof, put together: Traj, Unit, Half, IsBody, Clone, HalfW, HalfS, PdS, PdT, PdL, FmS, PsL, SplC, Lin, Joi, RdN, Rune, CutL, FmB, RdL, PbS.
   Conditions: those that each statement names. -/
import Derived.Test.YtnmjkjjmigiabaaGreatDoorKWrittenE5
import Derived.Lib.SliceRun
import Derived.Laws.AppendOwn
import Derived.Lib.SplitLaws
import Derived.Shelf.Strings.OnBuilder
import Derived.Shelf.Strings.BuilderK
import Derived.Laws.RangeString
import Derived.StillTailTactics
/- Plain facts: how far the states of a mode that is stepped with small errors lie from those of the mode that is stepped exactly. No program stands in it.
   Conditions: those that each statement names. -/
namespace Go.Proofs.YtnmjkjjmigiabaaGreatDoor
set_option linter.unusedSimpArgs false
set_option linter.unusedVariables false
open Go

/-! ### sizes in the plane -/
def N (a b B : Rat) : Prop := 0 ≤ B ∧ a * a + b * b ≤ B * B
theorem le_of_sq {a B : Rat} (hB : 0 ≤ B) (h : a * a ≤ B * B) : a ≤ B := by
  rcases Rat.le_total (a := a) (b := B) with g | g
  · exact g
  · have h1 := Rat.mul_nonneg (show 0 ≤ a - B by grind) hB
    have h2 := Rat.mul_nonneg (show 0 ≤ a - B by grind) (show 0 ≤ a - B by grind)
    by_cases e : a = B
    · grind
    · have : 0 < a - B := by grind
      have h3 := Rat.mul_pos this this
      grind
theorem N.ab {a b B : Rat} (h : N a b B) : Flo.Ab a B ∧ Flo.Ab b B := by
  obtain ⟨h0, h1⟩ := h
  have ha := square_nonneg a
  have hb := square_nonneg b
  have k1 := le_of_sq h0 (show a * a ≤ B * B by grind)
  have k2 := le_of_sq h0 (show b * b ≤ B * B by grind)
  have k3 := le_of_sq (a := -a) h0 (by grind)
  have k4 := le_of_sq (a := -b) h0 (by grind)
  exact ⟨⟨by grind, k1⟩, ⟨by grind, k2⟩⟩
theorem N.zero : N 0 0 0 := ⟨by grind, by grind⟩
theorem N.mono {a b B C : Rat} (h : N a b B) (hC : B ≤ C) : N a b C := by
  obtain ⟨h0, h1⟩ := h
  refine ⟨by grind, ?_⟩
  have h2 := Rat.mul_le_mul_of_nonneg_left hC h0
  have h3 := Rat.mul_le_mul_of_nonneg_right hC (show 0 ≤ C by grind)
  grind
theorem N.eq {a b a' b' B : Rat} (h : N a b B) (h1 : a = a') (h2 : b = b') : N a' b' B := h1 ▸ h2 ▸ h
theorem N.add {a b c d B C : Rat} (h : N a b B) (g : N c d C) : N (a + c) (b + d) (B + C) := by
  obtain ⟨h0, h1⟩ := h
  obtain ⟨g0, g1⟩ := g
  refine ⟨by grind, ?_⟩
  have hBC := Rat.mul_nonneg h0 g0
  have k1 := Rat.mul_le_mul_of_nonneg_left g1 (show 0 ≤ a * a + b * b by have := square_nonneg a; have := square_nonneg b; grind)
  have k2 := Rat.mul_le_mul_of_nonneg_right h1 (square_nonneg C)
  have k3 := square_nonneg (a * d - b * c)
  have k4 := le_of_sq (a := a * c + b * d) hBC (by grind)
  grind
theorem N.mul {a b c d B T : Rat} (h : N a b B) (hT : 0 ≤ T) (g : c * c + d * d ≤ T * T) : N (a * c - b * d) (a * d + b * c) (B * T) := by
  obtain ⟨h0, h1⟩ := h
  refine ⟨Rat.mul_nonneg h0 hT, ?_⟩
  have k1 := Rat.mul_le_mul_of_nonneg_left g (show 0 ≤ a * a + b * b by have := square_nonneg a; have := square_nonneg b; grind)
  have k2 := Rat.mul_le_mul_of_nonneg_right h1 (square_nonneg T)
  grind
theorem N.parts {a b L : Rat} (h : Flo.Ab a L) (g : Flo.Ab b L) : N a b (3 / 2 * L) := by
  have hL := h.nonneg
  have h2 := h.mul h
  have g2 := g.mul g
  unfold Flo.Ab at h2 g2
  have := square_nonneg L
  exact ⟨by grind, by grind⟩
theorem N.gain (g h x : Rat) : N (g * x) (h * x) ((ra g + ra h) * ra x) := by
  have a := ra_nonneg g
  have b := ra_nonneg h
  have c := ra_nonneg x
  refine ⟨Rat.mul_nonneg (by grind) c, ?_⟩
  have e1 := ra_sq g
  have e2 := ra_sq h
  have e3 := ra_sq x
  have k := Rat.mul_nonneg (Rat.mul_nonneg a b) (square_nonneg (ra x))
  have : g * x * (g * x) + h * x * (h * x) = (ra g * ra g) * (ra x * ra x) + (ra h * ra h) * (ra x * ra x) := by rw [e1, e2, e3]; grind
  rw [this]
  grind

/-! ### trajectories -/
def psum (x : Nat → Rat) : Nat → Rat
  | 0 => 0
  | i + 1 => psum x i + ra (x i)
theorem psum_nonneg (x : Nat → Rat) : ∀ i, 0 ≤ psum x i
  | 0 => by simp [psum]
  | i + 1 => by have := psum_nonneg x i; have := ra_nonneg (x i); simp only [psum]; grind

/-- the states of a mode that is stepped exactly -/
def zt (c d g h : Rat) (x : Nat → Rat) : Nat → Rat × Rat
  | 0 => (0, 0)
  | i + 1 => ((zt c d g h x i).1 * c - (zt c d g h x i).2 * d + g * x i, (zt c d g h x i).1 * d + (zt c d g h x i).2 * c + h * x i)

theorem pole_T {c d : Rat} (hp : c * c + d * d ≤ 1 + 1 / 100000) : c * c + d * d ≤ (1 + 1 / 200000) * (1 + 1 / 200000) := by grind

/-- growth by at most one part in 200,000 a step -/
theorem grow (i : Nat) (hi : i < 2000) : (1 + (i : Rat) / 100000) * (1 + 1 / 200000) ≤ 1 + ((i + 1 : Nat) : Rat) / 100000 := by
  have h1 : (i : Rat) ≤ 2000 := by have : ((i : Nat) : Rat) ≤ ((2000 : Nat) : Rat) := by exact_mod_cast (by omega : i ≤ 2000)
                                   exact this
  have h2 : ((i + 1 : Nat) : Rat) = (i : Rat) + 1 := by exact_mod_cast rfl
  rw [h2]
  grind

theorem zt_N (c d g h : Rat) (x : Nat → Rat) (hp : c * c + d * d ≤ 1 + 1 / 100000) : ∀ i, i ≤ 2000 → N (zt c d g h x i).1 (zt c d g h x i).2 ((ra g + ra h) * psum x i * (1 + (i : Rat) / 100000))
  | 0, _ => by
    have : (ra g + ra h) * psum x 0 * (1 + ((0 : Nat) : Rat) / 100000) = 0 := by simp [psum]
    rw [this]; exact N.zero
  | i + 1, hi => by
    have ih := zt_N c d g h x hp i (by omega)
    have h1 := (ih.mul (show (0 : Rat) ≤ 1 + 1 / 200000 by grind) (pole_T hp)).add (N.gain g h (x i))
    refine (h1.eq rfl rfl).mono ?_
    have hG : 0 ≤ ra g + ra h := by have := ra_nonneg g; have := ra_nonneg h; grind
    have hP := psum_nonneg x i
    have hgr := grow i (by omega)
    have k1 := Rat.mul_le_mul_of_nonneg_left hgr (Rat.mul_nonneg hG hP)
    have hx := Rat.mul_nonneg hG (ra_nonneg (x i))
    have h2 : ((i + 1 : Nat) : Rat) = (i : Rat) + 1 := by exact_mod_cast rfl
    have hi0 : (0 : Rat) ≤ (i : Rat) := by exact_mod_cast Nat.zero_le i
    have k2 := Rat.mul_nonneg hx (show (0 : Rat) ≤ ((i : Rat) + 1) / 100000 by grind)
    rw [h2] at k1 ⊢
    simp only [psum]
    grind

/-- a mode that is stepped with errors of at most L in each part -/
theorem traj (c d g h : Rat) (x : Nat → Rat) (hp : c * c + d * d ≤ 1 + 1 / 100000) (s : Nat → Rat × Rat) (h0 : s 0 = (0, 0)) (X M L : Rat) (n : Nat) (hn : n ≤ 2000) (hL : 0 ≤ L)
    (hX : ∀ i, i ≤ n → psum x i ≤ X) (hM : 51 / 50 * ((ra g + ra h) * X + (n : Rat) * (3 / 2 * L)) ≤ M) (Q : Nat → Prop) (q0 : Q 0)
    (hstep : ∀ i, i < n → Q i → N (s i).1 (s i).2 M → Q (i + 1) ∧ Flo.Ab ((s (i + 1)).1 - ((s i).1 * c - (s i).2 * d + g * x i)) L ∧ Flo.Ab ((s (i + 1)).2 - ((s i).1 * d + (s i).2 * c + h * x i)) L) :
    ∀ i, i ≤ n → Q i ∧ N ((s i).1 - (zt c d g h x i).1) ((s i).2 - (zt c d g h x i).2) ((i : Rat) * (3 / 2 * L) * (1 + (i : Rat) / 100000)) ∧ N (s i).1 (s i).2 M := by
  have hG : 0 ≤ ra g + ra h := by have := ra_nonneg g; have := ra_nonneg h; grind
  have toM : ∀ i, i ≤ n → N ((s i).1 - (zt c d g h x i).1) ((s i).2 - (zt c d g h x i).2) ((i : Rat) * (3 / 2 * L) * (1 + (i : Rat) / 100000)) → N (s i).1 (s i).2 M := by
    intro i hi e
    have hz := zt_N c d g h x hp i (by omega)
    refine ((e.add hz).eq (by grind) (by grind)).mono ?_
    have hin : (i : Rat) ≤ (n : Rat) := by exact_mod_cast hi
    have hi2 : (i : Rat) ≤ 2000 := by
      have : ((i : Nat) : Rat) ≤ ((2000 : Nat) : Rat) := by exact_mod_cast (by omega : i ≤ 2000)
      exact this
    have hi0 : (0 : Rat) ≤ (i : Rat) := by exact_mod_cast Nat.zero_le i
    have f : 1 + (i : Rat) / 100000 ≤ 51 / 50 := by grind
    have a1 := Rat.mul_le_mul_of_nonneg_right hin (show 0 ≤ 3 / 2 * L by grind)
    have a2 := Rat.mul_nonneg hi0 (show 0 ≤ 3 / 2 * L by grind)
    have a3 := Rat.mul_le_mul_of_nonneg_left f a2
    have b1 := Rat.mul_le_mul_of_nonneg_left (hX i hi) hG
    have b2 := Rat.mul_nonneg hG (psum_nonneg x i)
    have b3 := Rat.mul_le_mul_of_nonneg_left f b2
    grind
  intro i
  induction i with
  | zero =>
    intro hi
    have e : N ((s 0).1 - (zt c d g h x 0).1) ((s 0).2 - (zt c d g h x 0).2) (((0 : Nat) : Rat) * (3 / 2 * L) * (1 + ((0 : Nat) : Rat) / 100000)) := by
      rw [h0]
      simp only [zt]
      have : ((0 : Nat) : Rat) * (3 / 2 * L) * (1 + ((0 : Nat) : Rat) / 100000) = 0 := by simp
      rw [this]
      exact N.zero.eq (by grind) (by grind)
    exact ⟨q0, e, toM 0 hi e⟩
  | succ i ih =>
    intro hi
    obtain ⟨q, e, hs⟩ := ih (by omega)
    obtain ⟨q', l1, l2⟩ := hstep i (by omega) q hs
    have e' : N ((s (i + 1)).1 - (zt c d g h x (i + 1)).1) ((s (i + 1)).2 - (zt c d g h x (i + 1)).2) (((i + 1 : Nat) : Rat) * (3 / 2 * L) * (1 + ((i + 1 : Nat) : Rat) / 100000)) := by
      have k := (e.mul (show (0 : Rat) ≤ 1 + 1 / 200000 by grind) (pole_T hp)).add (N.parts l1 l2)
      refine (k.eq ?_ ?_).mono ?_
      · simp only [zt]; grind
      · simp only [zt]; grind
      · have hgr := grow i (by omega)
        have hi0 : (0 : Rat) ≤ (i : Rat) := by exact_mod_cast Nat.zero_le i
        have a2 := Rat.mul_nonneg hi0 (show 0 ≤ 3 / 2 * L by grind)
        have a3 := Rat.mul_le_mul_of_nonneg_left hgr a2
        have h2 : ((i + 1 : Nat) : Rat) = (i : Rat) + 1 := by exact_mod_cast rfl
        have a4 := Rat.mul_nonneg (show 0 ≤ 3 / 2 * L by grind) (show (0 : Rat) ≤ ((i : Rat) + 1) / 100000 by grind)
        rw [h2] at a3 ⊢
        grind
    exact ⟨q', e', toM (i + 1) hi e'⟩

end Go.Proofs.YtnmjkjjmigiabaaGreatDoor

/- Plain facts: a number of moderate size, divided by its size, has a size near 1, and multiplied by its size it is near itself.
   Conditions: those that each statement names. No program stands in it. -/
namespace Go.Proofs.YtnmjkjjmigiabaaGreatDoor
set_option linter.unusedSimpArgs false
set_option linter.unusedVariables false
open Go

/-- the law's own test, where what is left is at most 340 units of 'u S' -/
theorem small_of (a b p q k d1 d2 s : Nat) (w1 w2 w3 w4 : World) (h1 : Moderate a b) (i1 : floatBits .sub .f64 p a = some d1) (j1 : floatBits .sub .f64 q b = some d2) (r1 : floatBits .add .f64 (labs d1) (labs d2) = some s) (r2 : Flo.Nm s)
    (hhigh : Flo.W s ≤ 340 * (Flo.u * (Flo.W (labs a) + Flo.W (labs b)))) (hk : Flo.Nm k) (hk44 : Flo.W k = Flo.pw (-((44 : Nat) : Int))) :
    (FloatKind.f64.format.order (fres w3 .add .f64 (labs (fres w1 .sub .f64 p a)) (labs (fres w2 .sub .f64 q b))) (fres w4 .mul .f64 (szd a b) k) == some .lt ||
      FloatKind.f64.format.order (fres w3 .add .f64 (labs (fres w1 .sub .f64 p a)) (labs (fres w2 .sub .f64 q b))) (fres w4 .mul .f64 (szd a b) k) == some .eq) = true := by
  obtain ⟨ax, bx, fa, fb, s1, s2, nla, nlb⟩ := h1
  have na := Nm_of_fin fa
  have nb := Nm_of_fin fb
  have u0 := Flo.u_pos
  have u1 := Flo.u_le
  have p201 := Flo.pw_pos (-201)
  generalize hS : Flo.W (labs a) + Flo.W (labs b) = S at *
  have hS0 : 0 ≤ S := by grind
  have huS0 := Rat.mul_nonneg (Rat.le_of_lt u0) hS0
  have huS : Flo.u * S ≤ S / 1048576 := by
    have := Rat.mul_le_mul_of_nonneg_right u1 hS0; grind
  have huuS : Flo.u * (Flo.u * S) ≤ (Flo.u * S) / 1048576 := by
    have := Rat.mul_le_mul_of_nonneg_right u1 huS0; grind
  have het : Flo.et ≤ Flo.u * (Flo.u * S) := by
    have k1 := Rat.mul_le_mul_of_nonneg_left s1 (Rat.le_of_lt u0)
    have k3 := Rat.mul_le_mul_of_nonneg_left k1 (Rat.le_of_lt u0)
    rw [show Flo.u = Flo.pw (-53) from rfl, ← Flo.pw_add, ← Flo.pw_add] at k3
    have k2 : Flo.pw (-1074) ≤ Flo.pw (-53 + (-53 + -201)) := Flo.pw_le (by omega)
    unfold Flo.et; rw [show Flo.u = Flo.pw (-53) from rfl]; grind
  have hbig : 32 * Flo.pw 201 < Flo.pw 1023 := by
    have e1 : Flo.pw 206 = 32 * Flo.pw 201 := by rw [show (206 : Int) = 5 + 201 from rfl, Flo.pw_add, show Flo.pw 5 = 32 from Flo.pw_nat 5]
    have e2 : Flo.pw 206 < Flo.pw 1023 := Flo.pw_lt (by omega)
    grind
  have et0 := Flo.et_pos
  -- the bound
  have hsz := szd_eq a b ax bx na nb
  obtain ⟨sz, o1, o2, o3⟩ := Flo.d_add (labs a) (labs b) nla nlb S ⟨by rw [hS]; grind, by rw [hS]; exact Rat.le_refl⟩ (by grind)
  rw [hsz] at o1
  simp only [Option.some.injEq] at o1
  rw [o1] at *
  rw [hS] at o3
  have e44 : Flo.W k = 512 * Flo.u := by
    rw [hk44, show (-((44 : Nat) : Int)) = 9 + -53 from rfl, Flo.pw_add, show Flo.pw 9 = 512 from Flo.pw_nat 9]; rfl
  have hkA : Flo.Ab (Flo.W k) (512 * Flo.u) := by rw [e44]; unfold Flo.Ab; grind
  have hszA : Flo.Ab (Flo.W sz) (2 * S) := ((o3.add (show Flo.Ab S S from ⟨by grind, by grind⟩)).eq (show Flo.W sz - S + S = Flo.W sz by grind)).mono (by grind)
  obtain ⟨k', t1, t2, t3⟩ := Flo.d_mul sz k o2 hk (2 * S * (512 * Flo.u)) (hszA.mul hkA) (by grind)
  have hlow : 500 * (Flo.u * S) ≤ Flo.W k' := by
    rw [e44] at t3
    have m1 : S - 2 * (Flo.u * S) ≤ Flo.W sz := by unfold Flo.Ab at o3; grind
    have m2 := Rat.mul_le_mul_of_nonneg_right m1 (show (0 : Rat) ≤ 512 * Flo.u by grind)
    unfold Flo.Ab at t3
    grind
  have fr1 : fres w1 .sub .f64 p a = d1 := by unfold fres; rw [i1]
  have fr2 : fres w2 .sub .f64 q b = d2 := by unfold fres; rw [j1]
  have fr3 : fres w3 .add .f64 (labs d1) (labs d2) = s := by unfold fres; rw [r1]
  have fr4 : fres w4 .mul .f64 sz k = k' := by unfold fres; rw [t1]
  rw [fr1, fr2, fr3, fr4, show FloatKind.f64.format = Ieee.double from rfl, Bool.or_eq_true, beq_iff_eq, beq_iff_eq]
  have o := Flo.order_num Ieee.double s k' r2 t2
  rw [o.1, o.2.1]
  show Flo.W s < Flo.W k' ∨ Flo.W s = Flo.W k'
  have : Flo.W s ≤ Flo.W k' := by grind
  grind


theorem labs_mod (x : Nat) (hx : x < 2 ^ 64) (h : Flo.Nm x) : x % signBit = labs x := by
  obtain ⟨s, m, p, hr⟩ := h
  have hm := mod_read x
  rw [show FloatKind.f64.decode x = _ from hr] at hm
  obtain ⟨n', j', l1, l2⟩ := labs_read hx hr
  have e : 2 * Ieee.double.signWeight = 2 ^ 64 := by decide
  have hl : labs x < 2 ^ 64 := by
    unfold labs
    split
    · unfold Op.negFloat
      exact Nat.xor_lt_two_pow hx (by decide)
    · split
      · decide
      · exact hx
  exact Flo.read_inj Ieee.double (show Ieee.double.read _ = _ from hm) l1 (by have := Nat.mod_le x signBit; omega) (by omega) l2.symm

/-- a number of moderate size by its size -/
theorem unit_quo (a b : Nat) (h : Moderate a b) : ∃ e f S, divD a b (szd a b) 0 = some (e, f) ∧ Flo.Nm e ∧ Flo.Nm f ∧ S = Flo.W (labs a) + Flo.W (labs b) ∧ S = ra (Flo.W a) + ra (Flo.W b) ∧ 0 < S ∧ S ≤ Flo.pw 201 ∧ Flo.et ≤ Flo.u * (Flo.u * S) ∧ Flo.Nm (szd a b) ∧
    Flo.Ab (Flo.W (szd a b) - S) (2 * (Flo.u * S)) ∧ Flo.Ab (Flo.W e * Flo.W (szd a b) - Flo.W a) (124 * (Flo.u * S)) ∧ Flo.Ab (Flo.W f * Flo.W (szd a b) - Flo.W b) (124 * (Flo.u * S)) ∧ Flo.Ab (Flo.W a) S ∧ Flo.Ab (Flo.W b) S := by
  obtain ⟨ax, bx, fa, fb, s1, s2, na', nb'⟩ := h
  have na := Nm_of_fin fa
  have nb := Nm_of_fin fb
  have hsz := szd_eq a b ax bx na nb
  have u0 := Flo.u_pos
  have u1 := Flo.u_le
  have et0 := Flo.et_pos
  have p201 := Flo.pw_pos (-201)
  have la := (labs_num a ax na).2
  have lb := (labs_num b bx nb).2
  have a0 := ra_nonneg (Flo.W a)
  have b0 := ra_nonneg (Flo.W b)
  have haS : Flo.Ab (Flo.W a) (Flo.W (labs a) + Flo.W (labs b)) := (ra_ab _).mono (by rw [la, lb]; grind)
  have hbS : Flo.Ab (Flo.W b) (Flo.W (labs a) + Flo.W (labs b)) := (ra_ab _).mono (by rw [la, lb]; grind)
  have hSe : Flo.W (labs a) + Flo.W (labs b) = ra (Flo.W a) + ra (Flo.W b) := by rw [la, lb]
  generalize hS : Flo.W (labs a) + Flo.W (labs b) = S at *
  have hS0 : 0 < S := by grind
  have huS0 := Rat.mul_nonneg (Rat.le_of_lt u0) (Rat.le_of_lt hS0)
  have huS : Flo.u * S ≤ S / 1048576 := by
    have := Rat.mul_le_mul_of_nonneg_right u1 (Rat.le_of_lt hS0); grind
  have huuS : Flo.u * (Flo.u * S) ≤ (Flo.u * S) / 1048576 := by
    have := Rat.mul_le_mul_of_nonneg_right u1 huS0; grind
  have het : Flo.et ≤ Flo.u * (Flo.u * S) := by
    have k1 := Rat.mul_le_mul_of_nonneg_left s1 (Rat.le_of_lt u0)
    have k3 := Rat.mul_le_mul_of_nonneg_left k1 (Rat.le_of_lt u0)
    rw [show Flo.u = Flo.pw (-53) from rfl, ← Flo.pw_add, ← Flo.pw_add] at k3
    have k2 : Flo.pw (-1074) ≤ Flo.pw (-53 + (-53 + -201)) := Flo.pw_le (by omega)
    unfold Flo.et; rw [show Flo.u = Flo.pw (-53) from rfl]; grind
  have het1 : Flo.et ≤ Flo.u / 2 := by
    have k2 : Flo.pw (-1074) ≤ Flo.pw (-54) := Flo.pw_le (by omega)
    have k3 : Flo.pw (-53) = 2 * Flo.pw (-54) := by rw [← Flo.pw_succ]; rfl
    unfold Flo.et; rw [show Flo.u = Flo.pw (-53) from rfl]; grind
  have hbig : 32 * Flo.pw 201 < Flo.pw 1022 := by
    have e1 : Flo.pw 206 = 32 * Flo.pw 201 := by rw [show (206 : Int) = 5 + 201 from rfl, Flo.pw_add, show Flo.pw 5 = 32 from Flo.pw_nat 5]
    have e2 : Flo.pw 206 < Flo.pw 1022 := Flo.pw_lt (by omega)
    grind
  have h32 : 32 < Flo.pw 1022 := by
    have e1 : Flo.pw 5 = 32 := Flo.pw_nat 5
    have e2 : Flo.pw 5 < Flo.pw 1022 := Flo.pw_lt (by omega)
    grind
  have h23 := Flo.pw_lt (a := 1022) (b := 1023) (by omega)
  obtain ⟨sz, o1, o2, o3⟩ := Flo.d_add (labs a) (labs b) na' nb' S ⟨by rw [hS]; grind, by rw [hS]; exact Rat.le_refl⟩ (by grind)
  rw [hsz] at o1
  simp only [Option.some.injEq] at o1
  rw [← o1, hS] at o3
  rw [← o1] at o2
  have o4 : Flo.Ab (Flo.W (szd a b) - S) (2 * (Flo.u * S)) := o3.mono (by grind)
  have hC : 0 < Flo.W (szd a b) := by unfold Flo.Ab at o4; grind
  have hCl : S / 2 ≤ Flo.W (szd a b) := by unfold Flo.Ab at o4; grind
  have hCh : Flo.W (szd a b) ≤ 2 * S := by unfold Flo.Ab at o4; grind
  have hT : S / Flo.W (szd a b) * Flo.W (szd a b) = S := by grind
  have hT2 : S / Flo.W (szd a b) ≤ 2 := by
    refine Rat.le_of_mul_le_mul_right (c := Flo.W (szd a b)) ?_ hC
    rw [hT]; grind
  have hT1 : 1 / 2 ≤ S / Flo.W (szd a b) := by
    refine Rat.le_of_mul_le_mul_right (c := Flo.W (szd a b)) ?_ hC
    rw [hT]; grind
  have z0 : Flo.W 0 = 0 := zero_num.2
  have hge : absGe (szd a b) 0 = true := (absGe_iff _ _ o2 zero_num.1).2 (by rw [z0]; have := ra_nonneg (Flo.W (szd a b)); unfold ra at *; grind)
  have kC := Rat.mul_le_mul_of_nonneg_left hCl (Rat.le_of_lt u0)
  have kT := Rat.mul_le_mul_of_nonneg_left hT1 (Rat.le_of_lt u0)
  obtain ⟨e, f, q1, q2, q3, q4, q5, q6, q7⟩ := Flo.quo_ge a b (szd a b) 0 na nb o2 zero_num.1 S (S / Flo.W (szd a b)) (Flo.W (szd a b)) (.inl rfl) hC (by grind) (by rw [z0]; unfold Flo.Ab; grind) haS hbS (by grind) hT (by grind) (by grind) (by grind) (by grind) hge
  rw [z0] at q6 q7
  refine ⟨e, f, S, divD_of_main a b _ 0 e f na nb o2 zero_num.1 q2 q3 ?_ q1, q2, q3, rfl, hSe, hS0, s2, het, o2, o4, q6.eq (by grind), q7.eq (by grind), haS, hbS⟩
  have := ra_nonneg (Flo.W 0)
  have : ra (Flo.W (szd a b)) = Flo.W (szd a b) := by unfold ra; rw [if_neg (by grind)]
  grind

/-- ITS SIZE IS NEAR 1 -/
theorem unit_size (a b e f : Nat) (h : Moderate a b) (hd : divD a b (szd a b) 0 = some (e, f)) (he : e < 2 ^ 64) (hf : f < 2 ^ 64) :
    ∃ d1 d2, floatBits .sub .f64 (szd e f) 4607182418800017408 = some d1 ∧ floatBits .sub .f64 4607182418800017408 (szd e f) = some d2 ∧ Flo.Nm d1 ∧ Flo.Nm d2 ∧ Flo.W d1 ≤ 300 * Flo.u ∧ Flo.W d2 ≤ 300 * Flo.u ∧ Flo.Nm e ∧ Flo.Nm f := by
  obtain ⟨e', f', S, hd', ne, nf, -, hSe, hS0, s2, het, nz, g0, g1, g2, haS, hbS⟩ := unit_quo a b h
  rw [hd] at hd'
  simp only [Option.some.injEq, Prod.mk.injEq] at hd'
  obtain ⟨rfl, rfl⟩ := hd'
  generalize Flo.W (szd a b) = C at *
  have u0 := Flo.u_pos
  have u1 := Flo.u_le
  have et0 := Flo.et_pos
  have huS0 := Rat.mul_nonneg (Rat.le_of_lt u0) (Rat.le_of_lt hS0)
  have huS : Flo.u * S ≤ S / 1048576 := by
    have := Rat.mul_le_mul_of_nonneg_right u1 (Rat.le_of_lt hS0); grind
  have huu : Flo.u * Flo.u ≤ Flo.u / 1048576 := by
    have := Rat.mul_le_mul_of_nonneg_right u1 (Rat.le_of_lt u0); grind
  have hC0 : 0 < C := by unfold Flo.Ab at g0; grind
  have hetu : Flo.et ≤ Flo.u * Flo.u := by
    have k2 : Flo.pw (-1074) ≤ Flo.pw (-53 + -53) := Flo.pw_le (by omega)
    rw [Flo.pw_add] at k2
    unfold Flo.et; rw [show Flo.u = Flo.pw (-53) from rfl]; grind
  have le := labs_num e he ne
  have lf := labs_num f hf nf
  have e0 := ra_nonneg (Flo.W e)
  have f0 := ra_nonneg (Flo.W f)
  have ram : ∀ q, ra q * C = ra (q * C) := by
    intro q
    unfold ra
    by_cases hq : q < 0
    · rw [if_pos hq, if_pos (by have := Rat.mul_pos (show 0 < -q by grind) hC0; grind)]; grind
    · rw [if_neg hq, if_neg (by have := Rat.mul_nonneg (show 0 ≤ q by grind) (Rat.le_of_lt hC0); grind)]
  have rad : ∀ x y B, Flo.Ab (x - y) B → Flo.Ab (ra x - ra y) B := by
    intro x y B hxy
    unfold Flo.Ab ra at *
    split <;> split <;> grind
  have k1 := rad _ _ _ g1
  have k2 := rad _ _ _ g2
  rw [← ram] at k1 k2
  have k3 : Flo.Ab ((ra (Flo.W e) + ra (Flo.W f) - 1) * C) (252 * Flo.u * C) := by
    have hb : 250 * (Flo.u * S) ≤ 252 * Flo.u * C := by
      unfold Flo.Ab at g0
      have := Rat.mul_le_mul_of_nonneg_left (show S - 2 * (Flo.u * S) ≤ C by grind) (show 0 ≤ 252 * Flo.u by grind)
      have k := Rat.mul_le_mul_of_nonneg_left huS (show 0 ≤ 504 * Flo.u by grind)
      grind
    exact ((((k1.add k2).add g0.neg).eq (by grind)).mono (by grind))
  have k4 := k3.div hC0 (Rat.le_refl (a := C))
  generalize hZ : ra (Flo.W e) + ra (Flo.W f) = Z at *
  have b1023 : 4 < Flo.pw 1023 := by
    have e1 : Flo.pw 2 = 4 := Flo.pw_nat 2
    have e2 : Flo.pw 2 < Flo.pw 1023 := Flo.pw_lt (by omega)
    grind
  have hZ2 : Flo.Ab Z 2 := by unfold Flo.Ab at *; grind
  obtain ⟨z, z1, z2, z3⟩ := Flo.d_add (labs e) (labs f) le.1 lf.1 2 (hZ2.eq (by rw [le.2, lf.2, hZ])) (by grind)
  have ez := szd_eq e f he hf ne nf
  rw [z1] at ez
  simp only [Option.some.injEq] at ez
  rw [le.2, lf.2, hZ] at z3
  rw [← ez]
  have o1 : Flo.W 4607182418800017408 = 1 := by have := one_num.2; rw [this]; exact Flo.pw_zero
  have z4 : Flo.Ab (Flo.W z - 1) (255 * Flo.u) := (((z3.add k4).eq (show Flo.W z - Z + (Z - 1) = Flo.W z - 1 by grind)).mono (by grind))
  obtain ⟨d1, a1, a2, a3⟩ := Flo.d_sub z 4607182418800017408 z2 one_num.1 (255 * Flo.u) (z4.eq (by rw [o1])) (by grind)
  obtain ⟨d2, c1, c2, c3⟩ := Flo.d_sub 4607182418800017408 z one_num.1 z2 (255 * Flo.u) (z4.neg.eq (by rw [o1]; grind)) (by grind)
  rw [o1] at a3 c3
  refine ⟨d1, d2, a1, c1, a2, c2, ?_, ?_, ne, nf⟩
  · unfold Flo.Ab at *; grind
  · unfold Flo.Ab at *; grind

/-- MULTIPLIED BY THE SIZE IT IS NEAR THE NUMBER -/
theorem unit_back (a b e f : Nat) (h : Moderate a b) (hd : divD a b (szd a b) 0 = some (e, f)) :
    ∃ p q d1 d2 s, floatBits .mul .f64 e (szd a b) = some p ∧ floatBits .mul .f64 f (szd a b) = some q ∧ floatBits .sub .f64 p a = some d1 ∧ floatBits .sub .f64 q b = some d2 ∧ floatBits .add .f64 (labs d1) (labs d2) = some s ∧ Flo.Nm s ∧
      Flo.W s ≤ 340 * (Flo.u * (Flo.W (labs a) + Flo.W (labs b))) := by
  obtain ⟨e', f', S, hd', ne, nf, hSl, hSe, hS0, s2, het, nz, g0, g1, g2, haS, hbS⟩ := unit_quo a b h
  rw [hd] at hd'
  simp only [Option.some.injEq, Prod.mk.injEq] at hd'
  obtain ⟨rfl, rfl⟩ := hd'
  obtain ⟨ax, bx, fa, fb, s1, -, nla, nlb⟩ := h
  have na := Nm_of_fin fa
  have nb := Nm_of_fin fb
  have u0 := Flo.u_pos
  have u1 := Flo.u_le
  have et0 := Flo.et_pos
  have huS0 := Rat.mul_nonneg (Rat.le_of_lt u0) (Rat.le_of_lt hS0)
  have huS : Flo.u * S ≤ S / 1048576 := by
    have := Rat.mul_le_mul_of_nonneg_right u1 (Rat.le_of_lt hS0); grind
  have huuS : Flo.u * (Flo.u * S) ≤ (Flo.u * S) / 1048576 := by
    have := Rat.mul_le_mul_of_nonneg_right u1 huS0; grind
  have hbig : 32 * Flo.pw 201 < Flo.pw 1023 := by
    have e1 : Flo.pw 206 = 32 * Flo.pw 201 := by rw [show (206 : Int) = 5 + 201 from rfl, Flo.pw_add, show Flo.pw 5 = 32 from Flo.pw_nat 5]
    have e2 : Flo.pw 206 < Flo.pw 1023 := Flo.pw_lt (by omega)
    grind
  have m1 : Flo.Ab (Flo.W e * Flo.W (szd a b)) (2 * S) := ((g1.add haS).eq (show _ = Flo.W e * Flo.W (szd a b) by grind)).mono (by grind)
  have m2 : Flo.Ab (Flo.W f * Flo.W (szd a b)) (2 * S) := ((g2.add hbS).eq (show _ = Flo.W f * Flo.W (szd a b) by grind)).mono (by grind)
  obtain ⟨p, p1, p2, p3⟩ := Flo.d_mul e (szd a b) ne nz (2 * S) m1 (by grind)
  obtain ⟨q, q1, q2, q3⟩ := Flo.d_mul f (szd a b) nf nz (2 * S) m2 (by grind)
  have p64 : p < 2 ^ 64 := by have := floatBits_wf p1; simpa [Lit.wf] using this
  have q64 : q < 2 ^ 64 := by have := floatBits_wf q1; simpa [Lit.wf] using this
  have P : Flo.Ab (Flo.W p - Flo.W a) (127 * (Flo.u * S)) := ((p3.add g1).eq (by grind)).mono (by grind)
  have Q : Flo.Ab (Flo.W q - Flo.W b) (127 * (Flo.u * S)) := ((q3.add g2).eq (by grind)).mono (by grind)
  obtain ⟨d1, i1, i2, i3, i4, i5, i6⟩ := rest_ok p a p2 na p64 S 127 (by grind) (by grind) P s2 het (Rat.le_of_lt hS0)
  obtain ⟨d2, j1, j2, j3, j4, j5, j6⟩ := rest_ok q b q2 nb q64 S 127 (by grind) (by grind) Q s2 het (Rat.le_of_lt hS0)
  obtain ⟨s, r1, r2, r3⟩ := Flo.d_add (labs d1) (labs d2) i4 j4 (256 * (Flo.u * S)) ⟨by grind, by grind⟩ (by grind)
  refine ⟨p, q, d1, d2, s, p1, q1, i1, j1, r1, r2, ?_⟩
  rw [← hSl]
  unfold Flo.Ab at r3
  grind

theorem fA_lt {op : BinOp} {a b : Option Nat} {e : Nat} (h : fA op .f64 a b = some e) : e < 2 ^ 64 := by
  cases a with
  | none => cases h
  | some a =>
    cases b with
    | none => cases h
    | some b =>
      have h' : floatBits op .f64 a b = some e := h
      have := floatBits_wf h'
      simpa [Lit.wf] using this
theorem divD_lt {a b c d e f : Nat} (h : divD a b c d = some (e, f)) : e < 2 ^ 64 ∧ f < 2 ^ 64 := by
  unfold divD at h
  split at h
  · split at h
    · rename_i e' f' hq
      split at h
      · simp only [Option.some.injEq, Prod.mk.injEq] at h
        obtain ⟨rfl, rfl⟩ := h
        unfold qA at hq
        split at hq
        · simp only [Prod.mk.injEq] at hq
          exact ⟨fA_lt hq.1, fA_lt hq.2⟩
        · simp only [Prod.mk.injEq] at hq
          exact ⟨fA_lt hq.1, fA_lt hq.2⟩
      · cases h
    · cases h
  · cases h
theorem le_of_W {a b : Nat} (ha : Flo.Nm a) (hb : Flo.Nm b) (h : Flo.W a ≤ Flo.W b) : (FloatKind.f64.format.order a b == some .lt || FloatKind.f64.format.order a b == some .eq) = true := by
  have o := Flo.order_num Ieee.double a b ha hb
  rw [show FloatKind.f64.format = Ieee.double from rfl, Bool.or_eq_true, beq_iff_eq, beq_iff_eq, o.1, o.2.1]
  show Flo.W a < Flo.W b ∨ Flo.W a = Flo.W b
  grind

end Go.Proofs.YtnmjkjjmigiabaaGreatDoor

/- HalfLife: the powers of a valid pole times the gain stay bounded; the walks, the program's and the model's.
   Conditions: those that each statement names. -/
namespace Go.Proofs.YtnmjkjjmigiabaaGreatDoor
set_option linter.unusedSimpArgs false
set_option linter.unusedVariables false
open Go Go.RowKit

def zH (m : M4) : Nat → Nat × Nat
  | 0 => (m.gr, m.gi)
  | n + 1 => (mulSre (zH m n).1 (zH m n).2 m.pr m.pi, mulSim (zH m n).1 (zH m n).2 m.pr m.pi)
theorem gain_le {m : M4} (h : m.ok) : ra (S m.gr) ≤ 1024 ∧ ra (S m.gi) ≤ 1024 := by
  obtain ⟨h1, h2, h3, h4, -, h6, h7⟩ := Valid.parts h
  have n1024 : Flo.Nm 4652218415073722368 ∧ Flo.W 4652218415073722368 = 1024 := by
    have h := Flo.int_double 1024 (by omega)
    rw [show floatOfInt .f64 1024 = 4652218415073722368 from by decide] at h
    exact h
  obtain ⟨a1, a2⟩ := wid_num (Sm_of h3)
  obtain ⟨b1, b2⟩ := wid_num (Sm_of h4)
  have la := labs_num _ (wid_lt m.gr) a1
  have lb := labs_num _ (wid_lt m.gi) b1
  have c1 := (leB_iff la.1 n1024.1).1 h6
  have c2 := (leB_iff lb.1 n1024.1).1 h7
  rw [la.2, a2, n1024.2] at c1
  rw [lb.2, b2, n1024.2] at c2
  exact ⟨c1, c2⟩
structure PartH (m : M4) (z : Nat × Nat) : Prop where
  p1 : ∃ e D K, PartOk .sub z.1 m.pr z.2 m.pi e D K
  p2 : ∃ e D K, PartOk .add z.1 m.pi z.2 m.pr e D K
  n1 : Sm (mulSre z.1 z.2 m.pr m.pi)
  n2 : Sm (mulSim z.1 z.2 m.pr m.pi)
  e1 : Flo.Ab (S (mulSre z.1 z.2 m.pr m.pi) - (S z.1 * S m.pr - S z.2 * S m.pi)) 1
  e2 : Flo.Ab (S (mulSim z.1 z.2 m.pr m.pi) - (S z.1 * S m.pi + S z.2 * S m.pr)) 1
theorem part_h (m : M4) (hm : m.ok) (z : Nat × Nat) (h1 : Sm z.1) (h2 : Sm z.2) (hN : N (S z.1) (S z.2) 6000) : PartH m z := by
  obtain ⟨n1, n2, n3, n4⟩ := hm.nums
  obtain ⟨q1, q2⟩ := hm.pole
  obtain ⟨r1, r2⟩ := hN.ab
  have l20 : (1000000 : Rat) ≤ Flo.pw 120 := by
    have e : Flo.pw 20 = 1048576 := Flo.pw_nat 20
    have l : Flo.pw 20 ≤ Flo.pw 120 := Flo.pw_le (by omega)
    grind
  have l25 : (1000000 : Rat) ≤ Flo.pw 125 := by
    have l : Flo.pw 120 ≤ Flo.pw 125 := Flo.pw_le (by omega)
    grind
  have k1 : Flo.Ab (S z.1 * S m.pr) 12000 := (r1.mul q1).mono (by grind)
  have k2 : Flo.Ab (S z.2 * S m.pi) 12000 := (r2.mul q2).mono (by grind)
  have k3 : Flo.Ab (S z.1 * S m.pi) 12000 := (r1.mul q2).mono (by grind)
  have k4 : Flo.Ab (S z.2 * S m.pr) 12000 := (r2.mul q1).mono (by grind)
  have P1 := part_sub z.1 m.pr z.2 m.pi h1 n1 h2 n2 12000 24000 k1 k2 ((k1.sub k2).mono (by grind)) (by grind) (by grind)
  have P2 := part_add z.1 m.pi z.2 m.pr h1 n2 h2 n1 12000 24000 k3 k4 ((k3.add k4).mono (by grind)) (by grind) (by grind)
  have ve := Flo.v_eq
  have es1 := small'.es1
  have hv : Flo.v = 1 / 16777216 := by grind
  exact ⟨⟨_, _, _, P1⟩, ⟨_, _, _, P2⟩, P1.num, P2.num, P1.near.mono (by rw [hv]; grind), P2.near.mono (by rw [hv]; grind)⟩

def sH (m : M4) : Nat → Rat × Rat
  | 0 => (0, 0)
  | i + 1 => (S (zH m i).1, S (zH m i).2)
def QH (m : M4) : Nat → Prop
  | 0 => True
  | i + 1 => Sm (zH m i).1 ∧ Sm (zH m i).2
def xH (i : Nat) : Rat := if i = 0 then 1 else 0
theorem psum_H : ∀ i, psum xH i ≤ 1
  | 0 => by simp [psum]; grind
  | 1 => by simp [psum, xH, ra]; grind
  | i + 2 => by
    have h := psum_H (i + 1)
    show psum xH (i + 1) + ra (xH (i + 1)) ≤ 1
    have : ra (xH (i + 1)) = 0 := by simp [xH, ra]
    rw [this]; grind
theorem zH_ok (m : M4) (hm : m.ok) : ∀ n, n ≤ 1999 → Sm (zH m n).1 ∧ Sm (zH m n).2 ∧ N (S (zH m n).1) (S (zH m n).2) 6000 := by
  intro n hn
  obtain ⟨g1, g2⟩ := gain_le hm
  obtain ⟨n1, n2, n3, n4⟩ := hm.nums
  have t := traj (S m.pr) (S m.pi) (S m.gr) (S m.gi) xH (Valid.square hm) (sH m) rfl 1 6000 1 2000 (Nat.le_refl _) (by grind) (fun i _ => psum_H i)
    (by have e : ((2000 : Nat) : Rat) = 2000 := rfl
        rw [e]; grind) (QH m) trivial (fun i hi hq hN => by
      cases i with
      | zero =>
        refine ⟨⟨n3, n4⟩, ?_, ?_⟩
        · show Flo.Ab (S m.gr - (0 * S m.pr - 0 * S m.pi + S m.gr * xH 0)) 1
          have : xH 0 = 1 := rfl
          rw [this]; unfold Flo.Ab; constructor <;> grind
        · show Flo.Ab (S m.gi - (0 * S m.pi + 0 * S m.pr + S m.gi * xH 0)) 1
          have : xH 0 = 1 := rfl
          rw [this]; unfold Flo.Ab; constructor <;> grind
      | succ j =>
        have P := part_h m hm (zH m j) hq.1 hq.2 hN
        have x0 : xH (j + 1) = 0 := by simp [xH]
        refine ⟨⟨P.n1, P.n2⟩, ?_, ?_⟩
        · exact P.e1.eq (by rw [x0]; show _ = S (mulSre (zH m j).1 (zH m j).2 m.pr m.pi) - (S (zH m j).1 * S m.pr - S (zH m j).2 * S m.pi + S m.gr * 0); grind)
        · exact P.e2.eq (by rw [x0]; show _ = S (mulSim (zH m j).1 (zH m j).2 m.pr m.pi) - (S (zH m j).1 * S m.pi + S (zH m j).2 * S m.pr + S m.gi * 0); grind))
  obtain ⟨q, -, h⟩ := t (n + 1) (by omega)
  exact ⟨q.1, q.2, h⟩
theorem zH_part (m : M4) (hm : m.ok) (n : Nat) (hn : n ≤ 1999) : PartH m (zH m n) := by
  obtain ⟨a, b, c⟩ := zH_ok m hm n hn
  exact part_h m hm _ a b c
theorem zH_num (m : M4) (hm : m.ok) : ∀ n, n ≤ 2000 → Sm (zH m n).1 ∧ Sm (zH m n).2
  | 0, _ => ⟨hm.nums.2.2.1, hm.nums.2.2.2⟩
  | n + 1, h => ⟨(zH_part m hm n (by omega)).n1, (zH_part m hm n (by omega)).n2⟩

/-! ### the test, and what the functions answer -/
def szH (z : Nat × Nat) : Nat := szd (wid z.1) (wid z.2)
def twH (z : Nat × Nat) : Nat := opB .mul .f64 4611686018427387904 (szH z)
def hitH (m : M4) (n : Nat) : Bool := leB (twH (zH m n)) (szH (m.gr, m.gi))
theorem sz_H {a b : Nat} (ha : Sm a) (hb : Sm b) : floatBits .add .f64 (labs (wid a)) (labs (wid b)) = some (szH (a, b)) ∧ floatBits .add .f64 (wid a % signBit) (wid b % signBit) = some (szH (a, b)) ∧ Calm .mul .f64 4611686018427387904 (szH (a, b)) := by
  have na := (wid_num ha).1
  have nb := (wid_num hb).1
  have h := szd_eq (wid a) (wid b) (wid_lt a) (wid_lt b) na nb
  have lm := labs_num _ (wid_lt a) na
  have ln := labs_num _ (wid_lt b) nb
  refine ⟨h, by rw [labs_mod _ (wid_lt a) na, labs_mod _ (wid_lt b) nb]; exact h, ?_⟩
  have aa := single_abs ha
  have bb := single_abs hb
  obtain ⟨r, r1, r2, -⟩ := Flo.d_add (labs (wid a)) (labs (wid b)) lm.1 ln.1 (2 * Flo.pw 128) (by
    rw [lm.2, ln.2, (wid_num ha).2, (wid_num hb).2]
    have := ra_le aa
    have := ra_le bb
    have := ra_nonneg (S a)
    have := ra_nonneg (S b)
    unfold Flo.Ab; constructor <;> grind) (by
    have e : Flo.pw 129 = 2 * Flo.pw 128 := by rw [← Flo.pw_succ]; rfl
    have l : Flo.pw 129 < Flo.pw 1023 := Flo.pw_lt (by omega)
    grind)
  rw [h] at r1
  injection r1 with r1
  have n2 : Flo.Nm 4611686018427387904 := ⟨_, _, _, Flo.read_two⟩
  obtain ⟨q, hq⟩ := mul_some n2 (show Flo.Nm (szH (a, b)) from by unfold szH; rw [r1]; exact r2)
  exact (Calm.of hq).1

def HalfR (m : M4) (most : Nat) (r : Int) (ok : Bool) : Prop :=
  (∃ n : Nat, ok = true ∧ r = (n : Int) ∧ 1 ≤ n ∧ n ≤ most ∧ hitH m n = true ∧ ∀ j, 1 ≤ j → j < n → hitH m j = false) ∨
  (ok = false ∧ (∀ j, 1 ≤ j → j ≤ most → hitH m j = false) ∧ r = 0)
def HalfP (m : M4) (most : Nat) (w : World) (e : Ending) (w' : World) : Prop := ∃ r ok, e = .returned (.tuple #[.int .i64 r, .bool ok]) ∧ HalfR m most r ok ∧ Nw w w'
def HalfI (m : M4) (most : Nat) (w : World) (z n : Value) (wr : World) : Prop :=
  ∃ k : Nat, k ≤ most ∧ n = .int .i64 ((k : Int) + 1) ∧ z = .complex .f32 (zH m k).1 (zH m k).2 ∧ (∀ j, 1 ≤ j → j ≤ k → hitH m j = false) ∧ Nw w wr ∧
    wr.cell? ⟨w.heap.size, 0, none⟩ = some (.complex .f32 m.pr m.pi) ∧ wr.cell? ⟨w.heap.size, 1, none⟩ = some (.complex .f32 m.gr m.gi)

end Go.Proofs.YtnmjkjjmigiabaaGreatDoor

/- The walks of the tests of modes and bodies whose parts are finite, the program's and the law's: both say what 'modeB' says.
   Conditions: those that each statement names. -/
namespace Go.Proofs.YtnmjkjjmigiabaaGreatDoor
set_option linter.unusedSimpArgs false
set_option linter.unusedVariables false
open Go Go.RowKit

set_option maxHeartbeats 1600000 in
theorem isModeOf_fin (pr pi gr gi : Nat) (w : World) (S1 : Sm pr) (S2 : Sm pi) (S3 : Sm gr) (S4 : Sm gi) :
    Calls Tryz.prog 137 #[.complex .f64 (wid pr) (wid pi), .complex .f64 (wid gr) (wid gi)] w fun e w' => e = .returned (.bool (modeB pr pi gr gi labs)) ∧ w = w' := by
  have hB : modeB pr pi gr gi labs = (leB (sqr (wid pr) (wid pi)) 4607182418800017408 && (leB (labs (wid gr)) 4652218415073722368 && leB (labs (wid gi)) 4652218415073722368)) := by
    unfold modeB
    rw [(fin_iff' .f32 pr).2 S1, (fin_iff' .f32 pi).2 S2, (fin_iff' .f32 gr).2 S3, (fin_iff' .f32 gi).2 S4]
    rfl
  rw [hB]
  clear hB
  obtain ⟨a, b, m1, m2, m3, -, -⟩ := sqr_num S1 S2
  have f1 : ∀ w, fres w .mul .f64 (wid pr) (wid pr) = a := fun w => by unfold fres; rw [m1]
  have f2 : ∀ w, fres w .mul .f64 (wid pi) (wid pi) = b := fun w => by unfold fres; rw [m2]
  have f3 : ∀ w, fres w .add .f64 a b = sqr (wid pr) (wid pi) := fun w => by unfold fres; rw [m3]
  have d1 : fdr .mul .f64 (wid pr) (wid pr) = 0 := by unfold fdr; rw [m1]; rfl
  have d2 : fdr .mul .f64 (wid pi) (wid pi) = 0 := by unfold fdr; rw [m2]; rfl
  have d3 : fdr .add .f64 a b = 0 := by unfold fdr; rw [m3]; rfl
  rw [← leB_abs (wid_lt _) (wid_num S3).1 num_1024, ← leB_abs (wid_lt _) (wid_num S4).1 num_1024]
  have W1 := fin_wid S1
  have W2 := fin_wid S2
  have W3 := fin_wid S3
  have W4 := fin_wid S4
  clear m1 m2 m3 S1 S2 S3 S4
  cases h5 : leB (sqr (wid pr) (wid pi)) 4607182418800017408 <;> cases h6 : leB (wid gr % signBit) 4652218415073722368 <;> cases h7 : leB (wid gi % signBit) 4652218415073722368
  all_goals
    unfold leB at h5 h6 h7
    go_enter Tryz.func137, Tryz.ntmps137
    go_wp2_with (first
      | (go_at_call 189; refine (implFinite_any _ _ _ (wid_lt _) (wid_lt _)).mono ?_; rintro e w' ⟨rfl, rfl⟩)
      | (go_at_call 50; refine (abs_any _ _ (wid_lt _)).mono ?_; rintro e w' ⟨rfl, rfl⟩))
    all_goals (go_ret; exact ⟨by simp [h5, h6, h7], rfl⟩)

theorem implIsMode_fin (pr pi gr gi : Nat) (w : World) (h1 : Sm pr) (h2 : Sm pi) (h3 : Sm gr) (h4 : Sm gi) :
    Calls Tryz.prog 131 #[.agg #[.complex .f32 pr pi, .complex .f32 gr gi]] w (TestP (modeB pr pi gr gi labs) w) := by
  have S1 := Lib.hid h1
  have S2 := Lib.hid h2
  have S3 := Lib.hid h3
  have S4 := Lib.hid h4
  clear h1 h2 h3 h4
  go_enter Tryz.func131, Tryz.ntmps131
  go_wp2_with fail
  go_quiet (first
    | (go_at_call 184; with_reducible exact quiet_eq (implWiden_fin _ _ _ S1.out S2.out))
    | (go_at_call 184; with_reducible exact quiet_eq (implWiden_fin _ _ _ S3.out S4.out))
    | (go_at_call 137; exact quiet_eq (isModeOf_fin _ _ _ _ _ S1.out S2.out S3.out S4.out)))
  go_wp2
  go_ret
  exact ⟨rfl, ((Nw.refl _).alloc _).draw _⟩

def M4.okB (m : M4) : Bool := modeB m.pr m.pi m.gr m.gi labs
def M4.Fin (m : M4) : Prop := Sm m.pr ∧ Sm m.pi ∧ Sm m.gr ∧ Sm m.gi
theorem M4.okB_iff (m : M4) : m.okB = true ↔ m.ok := Iff.rfl
def bodyB (ms : List M4) : Bool := decide (ms.length ≤ 16) && ms.all M4.okB
theorem bodyB_iff (ms : List M4) : bodyB ms = true ↔ ms.length ≤ 16 ∧ ∀ m ∈ ms, m.ok := by
  unfold bodyB
  rw [Bool.and_eq_true, decide_eq_true_iff, List.all_eq_true]
  exact Iff.rfl
theorem bodyB_bad {ms : List M4} {m : M4} (hm : m ∈ ms) (h : m.okB = false) : bodyB ms = false := by
  cases hb : bodyB ms
  · rfl
  · have := ((bodyB_iff ms).1 hb).2 m hm
    rw [← M4.okB_iff, h] at this
    cases this
theorem bodyB_all {ms : List M4} (hl : ms.length ≤ 16) (h : ∀ k : Nat, k < ms.length → ∀ m, ms[k]? = some m → m.okB = true) : bodyB ms = true := by
  rw [bodyB_iff]
  refine ⟨hl, fun m hm => ?_⟩
  obtain ⟨k, hk⟩ := List.getElem?_of_mem hm
  exact h k (List.getElem?_eq_some_iff.1 hk).1 m hk
theorem bodyB_long {ms : List M4} (h : 16 < ms.length) : bodyB ms = false := by
  unfold bodyB
  rw [decide_eq_false (by omega)]; rfl

def TestI (ms : List M4) (n : Nat) (w : World) (i : Value) (wr : World) : Prop := ∃ k : Nat, k ≤ n ∧ i = .int .i64 (k : Int) ∧ (∀ j : Nat, j < k → ∀ m, ms[j]? = some m → m.okB = true) ∧ Nw w wr

theorem implIsBody_fin (ms : List M4) (hms : ∀ m ∈ ms, m.Fin) (n bm : Nat) (v : Value) (hn : ms.length = n) (hn64 : n ≤ 64) (w : World)
    (hm : w.ownsRow bm 93 2 v n (cellsM ms)) :
    Calls Tryz.prog 62 #[.agg #[v]] w (TestP (bodyB ms) w) := by
  obtain ⟨va, vc, rfl⟩ := own_shape' hm
  have Hm := Lib.hid hm
  have Hms := Lib.hid hms
  have Hn := Lib.hid hn
  have Hn0 := Lib.hid ((Nw.refl w).alloc (.cells #[.slice va n vc] 38 (0, 0)))
  clear hm hms hn
  by_cases hn16 : n ≤ 16
  · go_enter Tryz.func62, Tryz.ntmps62
    go_wp2_with fail
    go_loopw [12] (fun i wr => TestI ms n w i wr) (fun i _ => n - (intOf i).toNat)
    case atStart => exact ⟨0, by omega, rfl, fun j hj => absurd hj (by omega), Hn0.out⟩
    case round =>
      obtain ⟨k, hk, rfl, hal, hnw⟩ := hrel
      have Hnw := Lib.hid hnw
      have Hal := Lib.hid hal
      clear hnw hal
      by_cases hlt : k < n
      · obtain ⟨m, hmk⟩ : ∃ m, ms[k]? = some m := ⟨ms[k]'(by rw [Hn.out]; exact hlt), List.getElem?_eq_getElem _⟩
        have Hmr := Lib.hid (own_nw Hm.out Hnw.out)
        obtain ⟨g, cap, hv, hcap, hmax, hgs, e1, e2⟩ := own_mode Hmr.out hmk Hn.out.symm
        cases hv
        have Hmo := Lib.hid (Hms.out m (List.mem_of_getElem? hmk))
        unfold maxLen at hmax
        have Hnw4 := Lib.hid (Hnw.out.alloc (.cells #[.complex .f32 m.pr m.pi, .complex .f32 m.gr m.gi] 93 (0, 0)))
        have Hmk := Lib.hid hmk
        clear hmk
        go_wp2_with fail
        refine (implIsMode_fin _ _ _ _ _ Hmo.out.1 Hmo.out.2.1 Hmo.out.2.2.1 Hmo.out.2.2.2).mono ?_
        rintro e w5 ⟨rfl, n5⟩
        have Hnw5 := Lib.hid (Hnw4.out.trans n5)
        clear n5 e1 e2
        cases hb : modeB m.pr m.pi m.gr m.gi labs with
        | false =>
          go_wp2_with fail
          go_ret
          exact ⟨by rw [bodyB_bad (List.mem_of_getElem? Hmk.out) hb]; first | done | rfl, Hnw5.out⟩
        | true =>
          go_wp2_with fail
          go_roundw
          case rel =>
            refine ⟨k + 1, by omega, by rw [show ((k + 1 : Nat) : Int) = (k : Int) + 1 from by omega], fun j hj m' hm' => ?_, Hnw5.out⟩
            by_cases hjk : j < k
            · exact Hal.out j hjk m' hm'
            · obtain rfl : j = k := by omega
              rw [Hmk.out] at hm'
              cases hm'
              exact hb
          case measure => simp only [intOf]; omega
      · go_wp2_with fail
        go_ret
        exact ⟨by rw [bodyB_all (by rw [Hn.out]; exact hn16) (fun j hj => Hal.out j (by have := Hn.out; omega))]; first | done | rfl, Hnw.out⟩
  · go_enter Tryz.func62, Tryz.ntmps62
    go_wp2_with fail
    go_ret
    exact ⟨by rw [bodyB_long (by rw [Hn.out]; omega)]; first | done | rfl, Hn0.out⟩

theorem specModes_fin (ms : List M4) (n bm : Nat) (v : Value) (hn : ms.length = n) (hn64 : n ≤ 64) (w : World)
    (hm : w.ownsRow bm 93 2 v n (cellsM ms)) :
    Calls Tryz.prog 138 #[v] w (TestP (bodyB ms) w) := by
  obtain ⟨va, vc, rfl⟩ := own_shape' hm
  have Hm := Lib.hid hm
  have Hn := Lib.hid hn
  clear hm hn
  go_enter Tryz.func138, Tryz.ntmps138
  go_wp2_with fail
  go_loopw [7] (fun i wr => TestI ms n w i wr) (fun i _ => n - (intOf i).toNat)
  case atStart => exact ⟨0, by omega, rfl, fun j hj => absurd hj (by omega), Nw.refl _⟩
  case round =>
    obtain ⟨k, hk, rfl, hal, hnw⟩ := hrel
    have Hnw := Lib.hid hnw
    have Hal := Lib.hid hal
    clear hnw hal
    by_cases hlt : k < n
    · obtain ⟨m, hmk⟩ : ∃ m, ms[k]? = some m := ⟨ms[k]'(by rw [Hn.out]; exact hlt), List.getElem?_eq_getElem _⟩
      have Hmr := Lib.hid (own_nw Hm.out Hnw.out)
      obtain ⟨g, cap, hv, hcap, hmax, hgs, e1, e2⟩ := own_mode Hmr.out hmk Hn.out.symm
      cases hv
      unfold maxLen at hmax
      have Hnw4 := Lib.hid (Hnw.out.alloc (.cells #[.complex .f32 m.pr m.pi, .complex .f32 m.gr m.gi] 93 (0, 0)))
      have Hmk := Lib.hid hmk
      clear hmk
      go_wp2_with fail
      refine (specMode_any _ _ _ _ _).mono ?_
      rintro e w5 ⟨rfl, n5⟩
      have Hnw5 := Lib.hid (Hnw4.out.trans n5)
      clear n5 e1 e2
      cases hb : modeB m.pr m.pi m.gr m.gi labs with
      | false =>
        go_wp2_with fail
        go_ret
        exact ⟨by rw [bodyB_bad (List.mem_of_getElem? Hmk.out) hb]; first | done | rfl, Hnw5.out⟩
      | true =>
        go_wp2_with fail
        go_roundw
        case rel =>
          refine ⟨k + 1, by omega, by rw [show ((k + 1 : Nat) : Int) = (k : Int) + 1 from by omega], fun j hj m' hm' => ?_, Hnw5.out⟩
          by_cases hjk : j < k
          · exact Hal.out j hjk m' hm'
          · obtain rfl : j = k := by omega
            rw [Hmk.out] at hm'
            cases hm'
            exact hb
        case measure => simp only [intOf]; omega
    · go_wp2_with fail
      go_ret
      refine ⟨?_, Hnw.out⟩
      by_cases hn16 : n ≤ 16
      · rw [bodyB_all (by rw [Hn.out]; exact hn16) (fun j hj => Hal.out j (by have := Hn.out; omega))]
        simp [hn16]
        first | done | omega
      · rw [bodyB_long (by rw [Hn.out]; omega)]
        simp [hn16]
        first | done | omega

theorem specIsBody_fin (ms : List M4) (n bm : Nat) (v : Value) (hn : ms.length = n) (hn64 : n ≤ 64) (w : World)
    (hm : w.ownsRow bm 93 2 v n (cellsM ms)) :
    Calls Tryz.prog 80 #[.agg #[v]] w (TestP (bodyB ms) w) := by
  obtain ⟨va, vc, rfl⟩ := own_shape' hm
  have Hm := Lib.hid (hm.alloc (.cells #[.slice va n vc] 38 (0, 0)))
  have Hn0 := Lib.hid ((Nw.refl w).alloc (.cells #[.slice va n vc] 38 (0, 0)))
  clear hm
  go_enter Tryz.func80, Tryz.ntmps80
  go_wp2_with fail
  refine (specModes_fin ms n bm _ hn hn64 _ Hm.out).mono ?_
  rintro e w1 ⟨rfl, n1⟩
  have Hn1 := Lib.hid (Hn0.out.trans n1)
  clear n1
  go_wp2
  go_ret
  exact ⟨rfl, Hn1.out⟩

end Go.Proofs.YtnmjkjjmigiabaaGreatDoor

/- The walks of slices.Clone over a body's modes.
   Conditions: those that each statement names. -/
namespace Go.Proofs.YtnmjkjjmigiabaaGreatDoor
set_option linter.unusedSimpArgs false
set_option linter.unusedVariables false
open Go Go.RowKit

theorem Nw.grown {a w w1 : World} {row : Option Nat} (h : Nw a w) (hg : w.grownBy w1 row) (hr : ∀ q, row = some q → a.heap.size ≤ q) : Nw a w1 :=
  ⟨hg.os.trans h.os, hg.tape.trans h.tape, hg.output.trans h.output, Nat.le_trans h.size hg.size, fun i hi hne => (hg.block i (Nat.lt_of_lt_of_le hi h.size) (fun e => by have := hr i e.symm; omega)).trans (h.block i hi hne)⟩

def RowP (ms : List M4) (w : World) (e : Ending) (w' : World) : Prop :=
  ∃ v : Value, e = .returned v ∧ w'.ownsRow w.heap.size 93 2 v ms.length (cellsM ms) ∧ Nw w w'

end Go.Proofs.YtnmjkjjmigiabaaGreatDoor

/- The walks of HalfLife, the program's and the model's, of a valid mode.
   Conditions: those that each statement names. -/
namespace Go.Proofs.YtnmjkjjmigiabaaGreatDoor
set_option linter.unusedSimpArgs false
set_option linter.unusedVariables false
open Go Go.RowKit

theorem half_no {m : M4} {most : Nat} (h : ∀ j, 1 ≤ j → j ≤ most → hitH m j = false) : HalfR m most 0 false := .inr ⟨rfl, h, rfl⟩

end Go.Proofs.YtnmjkjjmigiabaaGreatDoor

/- The walk of the model's HalfLife, of a valid mode.
   Conditions: those that each statement names. -/
namespace Go.Proofs.YtnmjkjjmigiabaaGreatDoor
set_option linter.unusedSimpArgs false
set_option linter.unusedVariables false
open Go Go.RowKit

theorem l1In_half (x a b : Int) (w : World) :
    Calls Tryz.prog 150 #[.int .i64 x, .int .i64 a, .int .i64 b] w fun e w' => e = .returned (.bool (decide (a ≤ x ∧ x ≤ b))) ∧ w = w' := by
  by_cases h1 : a ≤ x
  all_goals by_cases h2 : x ≤ b
  all_goals
    go_enter Tryz.func150, Tryz.ntmps150
    go_wp2
    go_ret
    exact ⟨by simp [h1, h2], rfl⟩
theorem run2 {P : Program} {x y : Nat} (h : Calm .mul .f64 x y) (t : TypeId) (w : World) : (binOp .mul t (.float .f64 x) (.float .f64 y)).run P w = .ok (.float .f64 (opB .mul .f64 x y)) w := by
  rw [run_fl_mul, h.res, h.fdr]; rfl

end Go.Proofs.YtnmjkjjmigiabaaGreatDoor

/- The model's ParseDouble, but for what its two loops keep.
   Conditions: those that each statement names. -/
namespace Go.Proofs.YtnmjkjjmigiabaaGreatDoor
set_option linter.unusedSimpArgs false
set_option linter.unusedVariables false
open Go Go.RowKit

theorem own_str {w : World} {base n k : Nat} {v : Value} {ps : List (List UInt8)} (h : w.ownsRow base 9 1 v n (cellsT ps)) {p : List UInt8} (hk : ps[k]? = some p) (hn : n = ps.length) :
    ∃ g cap, v = .slice (some ⟨g, 0, none⟩) n cap ∧ n ≤ cap ∧ cap ≤ maxLen ∧ g < w.heap.size ∧ w.cell? ⟨g, k, none⟩ = some (.string ⟨p.toArray⟩) := by
  have hkl := (List.getElem?_eq_some_iff.1 hk).1
  rcases h.2 with ⟨_, h0⟩ | ⟨g, cap, cur, rfl, hb, hg, hc, hm, hs, ht⟩
  · omega
  · have c1 := h.cellAt k (by omega)
    rw [show (cellsT ps)[k]? = some (.string ⟨p.toArray⟩) from by simp [cellsT, hk]] at c1
    exact ⟨g, cap, rfl, hc, hm, (h.lt g rfl).2, c1⟩

/-- what is read where the text is right -/
def ReadN (l : List UInt8) (n : Int) : Prop := ∀ sg a, a < 10 ^ 16 → (sg = true → a ≠ 0) → l = byts (sgn sg ++ dgs a) → n = if sg then -(a : Int) else (a : Int)
/-- the string is of the form of a text -/
def Form (l : List UInt8) : Prop := ∃ (sg : Bool) (a : Nat) (q : Int), a % 2 = 1 ∧ a < 9007199254740992 ∧ -1100 ≤ q ∧ q ≤ 1100 ∧ l = byts (sgn sg ++ (dgs a ++ 112 :: numL q))
def CoreP (s : ByteArray) (Good : Int → Nat → Prop) (w : World) (e : Ending) (w' : World) : Prop :=
  Nw w w' ∧ ((∃ x xs, Good 0 x ∧ TxtOf x xs ∧ s ≠ ⟨#[]⟩ ∧ ((strOfNums xs = s ∧ e = .returned (.tuple #[.float .f64 x, .bool true])) ∨ (strOfNums xs ≠ s ∧ e = .returned (.tuple #[.float .f64 0, .bool false])))) ∨ (e = .returned (.tuple #[.float .f64 0, .bool false]) ∧ ¬ Form s.data.toList))

theorem form_cut {sg : Bool} {a : Nat} {q : Int} : byts (sgn sg ++ (dgs a ++ 112 :: numL q)) = byts (sgn sg ++ dgs a) ++ 112 :: byts (numL q) := by
  unfold byts
  rw [← List.append_assoc, List.map_append]
  rfl
theorem no_p_post (q : Int) (h : q.natAbs < 10 ^ 17) : 112 ∉ byts (numL q) := by
  intro hm
  have : ∀ c ∈ byts (dgs q.natAbs), c ≠ 112 := pre_no_p false q.natAbs (by omega)
  unfold numL at hm
  split at hm
  · have e : byts (45 :: dgs q.natAbs) = 45 :: byts (dgs q.natAbs) := rfl
    rw [e] at hm
    rcases List.mem_cons.1 hm with h | h
    · exact absurd h (by decide)
    · exact this _ h rfl
  · exact this _ hm rfl
theorem form_split {l r : List UInt8} {ps : List (List UInt8)} (h : l = glue ps ++ r) (hps : ∀ p ∈ ps, 112 ∉ p) (hr : 112 ∉ r) (sg : Bool) (a : Nat) (q : Int) (ha : a < 10 ^ 16) (hq : q.natAbs < 10 ^ 16) (hl : l = byts (sgn sg ++ (dgs a ++ 112 :: numL q))) :
    ps = [byts (sgn sg ++ dgs a)] ∧ r = byts (numL q) :=
  split_unique h hps hr (hl.trans form_cut) (fun hm => pre_no_p sg a (by omega) _ hm rfl) (no_p_post q (by omega))

theorem num_sgn (q : Int) : numL q = sgn (decide (q < 0)) ++ dgs q.natAbs := by
  unfold numL sgn
  by_cases h : q < 0
  · rw [if_pos h, decide_eq_true h]; rfl
  · rw [if_neg h, decide_eq_false h]; rfl
theorem num_val (q : Int) : (if decide (q < 0) = true then -((q.natAbs : Nat) : Int) else ((q.natAbs : Nat) : Int)) = q := by
  by_cases h : q < 0
  · rw [if_pos (decide_eq_true h)]; omega
  · rw [if_neg (by simp [h])]; omega

set_option maxHeartbeats 6400000 in
set_option maxRecDepth 100000 in
theorem specCore (s : ByteArray) (hs : s.size ≤ 1048576) (g1 : (s.toList == [48]) = false) (g2 : (s.toList == [45, 48]) = false) (Good : Int → Nat → Prop)
    (hlt : ∀ e x, Good e x → x < 18446744073709551616)
    (hmul : ∀ e x w, Good e x → 0 < e → Good (e - 1) (fres w .mul .f64 x 4611686018427387904))
    (hquo : ∀ e x w, Good e x → e < 0 → Good (e + 1) (fres w .quo .f64 x 4611686018427387904))
    (hin : ∀ p r n1 n2, s.data.toList = p ++ 112 :: r → 112 ∉ p → 112 ∉ r → n1.natAbs < 100000000000000000 → ReadN p n1 → ReadN r n2 → -1100 ≤ n2 → n2 ≤ 1100 → Good n2 (floatOfInt .f64 n1))
    (w : World) : Calls Tryz.prog 142 #[.string s] w (CoreP s Good w) := by
  have hl : s.data.toList.length = s.size := Array.length_toList
  have HI := Lib.hid (And.intro hlt (And.intro hmul (And.intro hquo hin)))
  clear hlt hmul hquo hin
  go_enter Tryz.func142, Tryz.ntmps142
  go_wp2_with fail
  refine (l1Split_ok s hs _).mono ?_
  rintro e w1 ⟨ps, r, v, rfl, hsp, hps, hr, hown, n1⟩
  have N1 := Lib.hid n1
  have SP := Lib.hid (And.intro hsp (And.intro hps hr))
  clear n1 hps hr
  by_cases hlen : ps.length = 1
  · match ps, hlen with
    | [p], _ =>
      obtain ⟨g, cap, rfl, hc1, hc2, hg, cell0⟩ := own_str hown (k := 0) (p := p) rfl rfl
      obtain ⟨g', cap', e', -, -, -, cell1⟩ := own_str hown (k := 1) (p := r) rfl rfl
      cases e'
      have C1 := Lib.hid cell1
      have HG := Lib.hid hg
      have elen : glue [p] = p ++ [112] := by unfold glue; simp
      rw [elen] at hsp
      have lp : (⟨p.toArray⟩ : ByteArray).size ≤ 1048576 := by
        show p.toArray.size ≤ _
        rw [List.size_toArray]
        have := congrArg List.length hsp
        simp at this; omega
      have lr : (⟨r.toArray⟩ : ByteArray).size ≤ 1048576 := by
        show r.toArray.size ≤ _
        rw [List.size_toArray]
        have := congrArg List.length hsp
        simp at this; omega
      have hne : s ≠ ⟨#[]⟩ := by
        rintro rfl
        have := congrArg List.length hsp
        simp at this
      have HS := Lib.hid (And.intro hsp hne)
      clear hown hg hsp hne elen cell1
      go_wp2_with fail
      refine (l1Read_any _ lp _).mono ?_
      rintro e w2 ⟨n1, b1, rfl, hn1, hc1', nw2⟩
      have R1 := Lib.hid hc1'
      have N2 := Lib.hid (N1.out.trans nw2)
      have cell1 : w2.cell? ⟨g, 1, none⟩ = some (.string ⟨r.toArray⟩) := by rw [nw2.cell (p := ⟨g, 1, none⟩) HG.out]; exact C1.out
      clear hc1' nw2 cell0
      go_wp2_with fail
      refine (l1Read_any _ lr _).mono ?_
      rintro e w3 ⟨n2, b2, rfl, hn2, hc2', nw3⟩
      have R2 := Lib.hid hc2'
      have N3 := Lib.hid (N2.out.trans nw3)
      clear hc2' nw3 cell1
      have bad : (b1 = false ∨ b2 = false ∨ ¬ (-1100 ≤ n2 ∧ n2 ≤ 1100)) → ¬ Form s.data.toList := by
        rintro hb ⟨sg, a, q, h1, h2, h3, h4, h5⟩
        obtain ⟨e1, e2⟩ := form_split SP.out.1 SP.out.2.1 SP.out.2.2 sg a q (by omega) (by omega) h5
        have e1 : p = byts (sgn sg ++ dgs a) := by simpa using e1
        have k1 := R1.out sg a (by omega) (fun _ => by omega) e1
        have k2 := R2.out (decide (q < 0)) q.natAbs (by omega) (fun h => (by have h' : q < 0 := (by simpa using h); omega)) (by show r = _; rw [e2, num_sgn q])
        rw [num_val] at k2
        rcases hb with hb | hb | hb
        · rw [k1.1] at hb; cases hb
        · rw [k2.1] at hb; cases hb
        · exact hb ⟨by omega, by omega⟩
      have BAD := Lib.hid bad
      clear bad
      have out : (b1 = false ∨ b2 = false ∨ ¬ (-1100 ≤ n2 ∧ n2 ≤ 1100)) → ∀ w', Nw w w' → CoreP s Good w (.returned (.tuple #[.float .f64 0, .bool false])) w' := fun h w' hn => ⟨hn, .inr ⟨rfl, BAD.out h⟩⟩
      have OUT := Lib.hid out
      clear out
      cases b1 with
      | false =>
        go_wp2_with fail
        all_goals
          go_ret2
          exact OUT.out (by simp) _ N3.out
      | true =>
        cases b2 with
        | false =>
          go_wp2_with fail
          all_goals
            go_ret2
            exact OUT.out (by simp) _ N3.out
        | true =>
          by_cases hrg : -1100 ≤ n2 ∧ n2 ≤ 1100
          · have Gd := Lib.hid (HI.out.2.2.2 p r n1 n2 (by rw [HS.out.1]; simp) (SP.out.2.1 p List.mem_cons_self) SP.out.2.2 hn1 (fun sg a ha h0 he => (R1.out sg a ha h0 he).2) (fun sg a ha h0 he => (R2.out sg a ha h0 he).2) hrg.1 hrg.2)
            go_wp2_with (go_at_call 150; refine (l1In_half _ _ _ _).mono ?_; rintro e w' ⟨rfl, rfl⟩; rw [decide_eq_true hrg])
            go_loopw [7, 9] (fun e x wr => ∃ (i : Int) (y : Nat), e = .int .i64 i ∧ x = .float .f64 y ∧ Good i y ∧ i ≤ 1100 ∧ -1100 ≤ i ∧ Nw w wr) (fun e _ _ => (intOf e).toNat)
            case atStart => exact ⟨n2, _, rfl, rfl, Gd.out, hrg.2, hrg.1, N3.out⟩
            case round =>
              obtain ⟨i, y, rfl, rfl, hgi, hi1, hi2, hN⟩ := hrel
              have G := Lib.hid hgi
              have Nr := Lib.hid hN
              clear hgi hN
              by_cases hpos : 0 < i
              · go_wp2_with fail
                go_roundw
                case rel => exact ⟨i - 1, _, rfl, rfl, HI.out.2.1 _ _ _ G.out hpos, by omega, by omega, Nr.out.draw _⟩
                case measure => simp only [intOf]; omega
              · go_wp2_with fail
                go_loopw [7, 9] (fun e x wr => ∃ (i : Int) (y : Nat), e = .int .i64 i ∧ x = .float .f64 y ∧ Good i y ∧ i ≤ 0 ∧ -1100 ≤ i ∧ Nw w wr) (fun e _ _ => (-(intOf e)).toNat)
                case atStart => exact ⟨i, y, rfl, rfl, G.out, by omega, by omega, Nr.out⟩
                case round =>
                  obtain ⟨i, y, rfl, rfl, hgi, hi1, hi2, hN⟩ := hrel
                  have G := Lib.hid hgi
                  have Nr := Lib.hid hN
                  clear hgi hN
                  by_cases hneg : i < 0
                  · go_wp2_with fail
                    go_roundw
                    case rel => exact ⟨i + 1, _, rfl, rfl, HI.out.2.2.1 _ _ _ G.out hneg, by omega, by omega, Nr.out.draw _⟩
                    case measure => simp only [intOf]; omega
                  · obtain rfl : i = 0 := by omega
                    have T := Lib.hid (specText y (HI.out.1 _ _ G.out))
                    go_wp2_with fail
                    refine (T.out _).mono ?_
                    rintro e w5 ⟨xs, rfl, t5, n5⟩
                    have N5 := Lib.hid (Nr.out.trans n5)
                    have T5 := Lib.hid t5
                    clear n5 t5
                    by_cases hx : strOfNums xs = s
                    · have R : CoreP s Good w (.returned (.tuple #[.float .f64 y, .bool true])) w5 := ⟨N5.out, .inl ⟨y, xs, G.out, T5.out, HS.out.2, .inl ⟨hx, rfl⟩⟩⟩
                      have RR := Lib.hid R
                      clear R
                      subst hx
                      go_wp2_with fail
                      all_goals
                        go_ret2
                        exact RR.out
                    · have R : CoreP s Good w (.returned (.tuple #[.float .f64 0, .bool false])) w5 := ⟨N5.out, .inl ⟨y, xs, G.out, T5.out, HS.out.2, .inr ⟨hx, rfl⟩⟩⟩
                      have RR := Lib.hid R
                      clear R
                      have g : ((strOfNums xs).toList == s.toList) = false := by
                        cases hq : ((strOfNums xs).toList == s.toList) with
                        | false => rfl
                        | true =>
                          exfalso
                          apply hx
                          have h2 : (strOfNums xs).toList = s.toList := by simpa using hq
                          rw [ByteArray.toList_eq, ByteArray.toList_eq] at h2
                          apply ByteArray.ext
                          exact Array.toList_inj.1 h2
                      clear hx
                      go_wp2_with fail
                      all_goals
                        go_ret2
                        exact RR.out
          · go_wp2_with (go_at_call 150; refine (l1In_half _ _ _ _).mono ?_; rintro e w' ⟨rfl, rfl⟩; rw [decide_eq_false hrg])
            all_goals
              go_ret2
              exact OUT.out (.inr (.inr hrg)) _ N3.out
  · have hbad : ¬ Form s.data.toList := by
      rintro ⟨sg, a, q, h1, h2, h3, h4, h5⟩
      obtain ⟨e1, -⟩ := form_split SP.out.1 SP.out.2.1 SP.out.2.2 sg a q (by omega) (by omega) h5
      rw [e1] at hlen
      simp at hlen
    have B := Lib.hid (show CoreP s Good w (.returned (.tuple #[.float .f64 0, .bool false])) w1 from ⟨N1.out, .inr ⟨rfl, hbad⟩⟩)
    obtain ⟨sa, sl, sc, rfl⟩ := own_shape hown
    obtain ⟨va, vc, e0⟩ := own_shape' hown
    cases e0
    have hne : (((ps.length + 1 : Nat) : Int) != 2) = true := by simp; omega
    clear hbad hown hsp
    go_wp2_with fail
    all_goals
      go_ret2
      exact B.out
end Go.Proofs.YtnmjkjjmigiabaaGreatDoor

/- The model's ParseDouble: where the string is the text of a finite double, that double and true; else 0 and false. The law FnExactParseDouble as a call.
   Conditions: those that each statement names. -/
namespace Go.Proofs.YtnmjkjjmigiabaaGreatDoor
set_option linter.unusedSimpArgs false
set_option linter.unusedVariables false
open Go Go.RowKit

theorem minus_ok (w : World) : Calls Tryz.prog 191 #[] w fun e w' => e = .returned (.float .f64 9223372036854775808) ∧ w = w' := by
  have e : Op.negFloat .f64 0 = 9223372036854775808 := by decide
  go_enter Tryz.func191, Tryz.ntmps191
  go_wp2_with fail
  go_ret
  exact ⟨by first | rfl | (rw [e]; rfl), rfl⟩

theorem spec_zero (s : ByteArray) (y : Nat) (hs : (y = 0 ∧ s = ⟨#[48]⟩) ∨ (y = 9223372036854775808 ∧ s = ⟨#[45, 48]⟩)) (w : World) :
    Calls Tryz.prog 142 #[.string s] w fun e w' => e = .returned (.tuple #[.float .f64 y, .bool true]) ∧ Nw w w' := by
  rcases hs with ⟨rfl, rfl⟩ | ⟨rfl, rfl⟩
  · have g1 : ((⟨#[48]⟩ : ByteArray).toList == [48]) = true := by rw [ByteArray.toList_eq]; rfl
    go_enter Tryz.func142, Tryz.ntmps142
    go_wp2_with fail
    go_ret2
    exact ⟨rfl, Nw.refl _⟩
  · have g1 : ((⟨#[45, 48]⟩ : ByteArray).toList == [48]) = false := by rw [ByteArray.toList_eq]; rfl
    have g2 : ((⟨#[45, 48]⟩ : ByteArray).toList == [45, 48]) = true := by rw [ByteArray.toList_eq]; rfl
    go_enter Tryz.func142, Tryz.ntmps142
    go_wp2_with fail
    refine (minus_ok _).mono ?_
    rintro e w1 ⟨rfl, rfl⟩
    go_wp2_with fail
    go_ret2
    exact ⟨rfl, Nw.refl _⟩

theorem exp_bounds {y m a : Nat} {sg : Bool} {p q : Int} (ry : Ieee.double.read y = .number sg m p) (ha : a % 2 = 1) (hv : (a : Rat) * Flo.pw q = (m : Rat) * Flo.pw p) : -1074 ≤ q ∧ q ≤ 1023 ∧ (a : Rat) * Flo.pw q < Flo.pw 1024 := by
  obtain ⟨b1, b2, b3⟩ := Flo.read_bound Ieee.double (by decide) y sg m p ry
  rw [Flo.lp_double] at b2
  have hmax := num_le_max y sg m p ry
  have h24 : ((9007199254740991 : Nat) : Rat) * Flo.pw 971 < Flo.pw 1024 := by
    have e : Flo.pw 1024 = ((9007199254740992 : Nat) : Rat) * Flo.pw 971 := by
      rw [show (1024 : Int) = 971 + (53 : Nat) from by omega, Flo.pw_add, Flo.pw_nat, show ((2 ^ 53 : Nat) : Rat) = ((9007199254740992 : Nat) : Rat) from rfl]; grind
    rw [e]
    exact Rat.mul_lt_mul_of_pos_right (by decide) (Flo.pw_pos 971)
  have hlt : (a : Rat) * Flo.pw q < Flo.pw 1024 := by rw [hv]; grind
  refine ⟨?_, ?_, hlt⟩
  · rcases Int.lt_or_le q p with g | g
    · exfalso
      obtain ⟨d, hd⟩ := Int.eq_ofNat_of_zero_le (show 0 ≤ p - q - 1 by omega)
      have e : p = q + ((d + 1 : Nat) : Int) := by omega
      rw [e, Flo.pw_add, Flo.pw_nat] at hv
      have p0 := Flo.pw_pos q
      have h2 : (a : Rat) = (m : Rat) * ((2 ^ (d + 1) : Nat) : Rat) := by
        have := Rat.mul_inv_cancel (Flo.pw q) (by grind)
        have k : (a : Rat) * Flo.pw q * (Flo.pw q)⁻¹ = (m : Rat) * (Flo.pw q * ((2 ^ (d + 1) : Nat) : Rat)) * (Flo.pw q)⁻¹ := by rw [hv]
        grind
      have h3 : a = m * 2 ^ (d + 1) := by exact_mod_cast h2
      rw [Nat.pow_succ, ← Nat.mul_assoc] at h3
      omega
    · omega
  · have a1 : (1 : Rat) ≤ (a : Rat) := by exact_mod_cast (show 1 ≤ a by omega)
    have := Rat.mul_le_mul_of_nonneg_right a1 (Rat.le_of_lt (Flo.pw_pos q))
    have k : Flo.pw q < Flo.pw 1024 := by grind
    have := Flo.lt_of_pw_lt k
    omega

theorem not_zero_text (sg : Bool) (a : Nat) (q : Int) (ha : a < 10 ^ 17) (hq : -2000 ≤ q ∧ q ≤ 2000) :
    ((strOfNums (sgn sg ++ (dgs a ++ 112 :: numL q))).toList == [48]) = false ∧ ((strOfNums (sgn sg ++ (dgs a ++ 112 :: numL q))).toList == [45, 48]) = false ∧ (strOfNums (sgn sg ++ (dgs a ++ 112 :: numL q))).size ≤ 60 := by
  have tl := text_len sg a q ha hq
  have sz : (strOfNums (sgn sg ++ (dgs a ++ 112 :: numL q))).size = (sgn sg ++ (dgs a ++ 112 :: numL q)).length := strOfNums_size _
  refine ⟨str_ne (by
    intro h; rw [h] at sz; have : (⟨#[48]⟩ : ByteArray).size = 1 := rfl; rw [show ([48] : List UInt8).toArray = #[48] from rfl] at sz; omega), str_ne (by
    intro h; rw [h] at sz; have : (⟨#[45, 48]⟩ : ByteArray).size = 2 := rfl; rw [show ([45, 48] : List UInt8).toArray = #[45, 48] from rfl] at sz; omega), by omega⟩

/-- the two numbers of a text -/
theorem text_nums {sg : Bool} {a : Nat} {q : Int} (ha : a % 2 = 1) (ha16 : a < 10 ^ 16) (hq : q.natAbs < 10 ^ 16) {p r : List UInt8} {n1 n2 : Int} (h : byts (sgn sg ++ (dgs a ++ 112 :: numL q)) = p ++ 112 :: r) (hp : 112 ∉ p) (r1 : ReadN p n1) (r2 : ReadN r n2) :
    n1 = (if sg then -(a : Int) else (a : Int)) ∧ n2 = q := by
  obtain ⟨rfl, rfl⟩ := cut_unique (h.symm.trans form_cut) hp (fun hm => pre_no_p sg a (by omega) _ hm rfl)
  have k1 := r1 sg a ha16 (fun _ => by omega) rfl
  have k2 := r2 (decide (q < 0)) q.natAbs hq (fun h => (by have h' : q < 0 := (by simpa using h); omega)) (by rw [← num_sgn q])
  rw [num_val] at k2
  exact ⟨k1, k2⟩

theorem same_double {x y mx my : Nat} {sg : Bool} {px py : Int} (hx : x < 18446744073709551616) (hy : y < 18446744073709551616) (rx : Ieee.double.read x = .number sg mx px) (ry : Ieee.double.read y = .number sg my py) (h : (mx : Rat) * Flo.pw px = (my : Rat) * Flo.pw py) : x = y :=
  Flo.read_inj Ieee.double rx ry hx hy h

theorem word_lt (s E F : Nat) (hs : s < 2) (hE : E < 2047) (hF : F < 4503599627370496) : s * 9223372036854775808 + (E * 4503599627370496 + F) < 18446744073709551616 := by omega
theorem specParse_text (sg : Bool) (a : Nat) (q : Int) (ha : a % 2 = 1) (ha53 : a < 9007199254740992) (y my : Nat) (py : Int) (hy : y < 18446744073709551616) (ry : Ieee.double.read y = .number sg my py) (hmy : my ≠ 0) (hv : (a : Rat) * Flo.pw q = (my : Rat) * Flo.pw py) (hq : -2000 ≤ q ∧ q ≤ 2000) (w : World) :
    Calls Tryz.prog 142 #[.string (strOfNums (sgn sg ++ (dgs a ++ 112 :: numL q)))] w fun e w' => e = .returned (.tuple #[.float .f64 y, .bool true]) ∧ Nw w w' := by
  obtain ⟨b1, b2, b3⟩ := exp_bounds ry ha hv
  obtain ⟨z1, z2, z3⟩ := not_zero_text sg a q (by omega) hq
  have ht : TxtOf y (sgn sg ++ (dgs a ++ 112 :: numL q)) := .inr (.inr (.inr ⟨sg, my, py, a, q, ry, hmy, ha, ha53, hv, hq.1, hq.2, rfl⟩))
  obtain ⟨v, hv0⟩ : ∃ v : Int, v = if sg then -(a : Int) else (a : Int) := ⟨_, rfl⟩
  have vn : v.natAbs = a := by rw [hv0]; cases sg <;> simp
  have vs : decide (v < 0) = sg := by rw [hv0]; cases sg <;> simp <;> omega
  obtain ⟨mx, px, rf, vf⟩ := float_exact v (by omega)
  rw [vs] at rf
  rw [vn] at vf
  have key : ∃ Good : Int → Nat → Prop, (∀ e x, Good e x → x < 18446744073709551616) ∧
      (∀ e x w, Good e x → 0 < e → Good (e - 1) (fres w .mul .f64 x 4611686018427387904)) ∧
      (∀ e x w, Good e x → e < 0 → Good (e + 1) (fres w .quo .f64 x 4611686018427387904)) ∧ Good q (floatOfInt .f64 v) ∧ ∀ x, Good 0 x → x = y := by
    by_cases hq0 : q < 0
    · refine ⟨fun e x => q ≤ e ∧ e ≤ 0 ∧ x < 18446744073709551616 ∧ ∃ m' p', Ieee.double.read x = .number sg m' p' ∧ (m' : Rat) * Flo.pw p' = (a : Rat) * Flo.pw (q - e), fun e x h => h.2.2.1, fun e x w h hpos => absurd h.2.1 (by omega), ?_, ?_, ?_⟩
      · rintro e x w ⟨h1, h2, h3, m', p', h4, h5⟩ hneg
        obtain ⟨z, m2, p2, k1, k2, k3, k4⟩ := half_sg x m' a sg p' (q - e) h4 h5 (by omega) ha53 (by omega) (by omega)
        have e1 : fres w .quo .f64 x 4611686018427387904 = z := by unfold fres; rw [k1]
        rw [e1]
        exact ⟨by omega, by omega, k2, m2, p2, k3, by rw [k4]; congr 2; omega⟩
      · exact ⟨Int.le_refl _, by omega, float_int_lt v, mx, px, rf, by rw [vf, Int.sub_self, Flo.pw_zero]; grind⟩
      · rintro x ⟨h1, h2, h3, m', p', h4, h5⟩
        exact same_double h3 hy h4 ry (by rw [h5, ← hv]; congr 2; omega)
    · obtain ⟨s, hs, hsg, hc⟩ := word_cases _ mx sg px (float_int_lt v) rf
      have a1 : (1 : Rat) ≤ (a : Rat) := by exact_mod_cast (show 1 ≤ a by omega)
      rcases hc with ⟨hx1, hm2, hp⟩ | ⟨E0, F, hx1, k1, k2, k3, k4, k5⟩
      · exfalso
        rw [hp] at vf
        have h1 : (mx : Rat) < 4503599627370496 := by exact_mod_cast hm2
        have h2 := Rat.mul_lt_mul_of_pos_right h1 (Flo.pw_pos (-1074))
        have h4 : 4503599627370496 * Flo.pw (-1074) = Flo.pw (-1022) := by
          rw [show (-1022 : Int) = -1074 + (52 : Nat) from by omega, Flo.pw_add, Flo.pw_nat]
          rw [show ((2 ^ 52 : Nat) : Rat) = 4503599627370496 from rfl]; grind
        have h5 := Flo.pw_le (show (-1022 : Int) ≤ 0 by omega)
        rw [Flo.pw_zero] at h5
        grind
      · have HX := Lib.hid hx1
        clear hx1 z3
        rw [k4, k5] at vf
        clear k4
        have vq : ((4503599627370496 + F : Nat) : Rat) * Flo.pw ((E0 : Int) - 1075 + q) = (a : Rat) * Flo.pw q := by rw [Flo.pw_add, ← Rat.mul_assoc, vf]
        have hE : (E0 : Int) + q ≤ 2046 := by
          have f2 : (4503599627370496 : Rat) ≤ ((4503599627370496 + F : Nat) : Rat) := by exact_mod_cast Nat.le_add_right _ F
          have g2 := Rat.mul_le_mul_of_nonneg_right f2 (Rat.le_of_lt (Flo.pw_pos ((E0 : Int) - 1075 + q)))
          have p52 : (4503599627370496 : Rat) * Flo.pw ((E0 : Int) - 1075 + q) = Flo.pw ((E0 : Int) - 1075 + q + (52 : Nat)) := by rw [Flo.pw_add ((E0 : Int) - 1075 + q), Flo.pw_nat, show ((2 ^ 52 : Nat) : Rat) = 4503599627370496 from rfl]; grind
          rw [p52, vq] at g2
          have k : Flo.pw ((E0 : Int) - 1075 + q + (52 : Nat)) < Flo.pw 1024 := by grind
          have := Flo.lt_of_pw_lt k
          omega
        refine ⟨fun e x => 0 ≤ e ∧ e ≤ q ∧ ∃ E : Nat, x = s * 9223372036854775808 + (E * 4503599627370496 + F) ∧ (E : Int) = E0 + (q - e), ?_, ?_, fun e x w h hneg => absurd h.1 (by omega), ?_, ?_⟩
        · rintro e x ⟨h1, h2, E, rfl, h3⟩
          exact word_lt s E F hs (by omega) k3
        · rintro e x w ⟨h1, h2, E, hxe, h3⟩ hpos
          obtain ⟨Z, hZ⟩ : ∃ Z : Nat, Z = s * 9223372036854775808 + ((E + 1) * 4503599627370496 + F) := ⟨_, rfl⟩
          have t := two_mul_word s E F hs (by clear hxe hZ; omega) (by clear hxe hZ; omega) k3
          rw [← hxe, ← hZ] at t
          have e1 : fres w .mul .f64 x 4611686018427387904 = Z := by unfold fres; rw [t]
          rw [e1]
          exact ⟨by clear hxe hZ; omega, by clear hxe hZ; omega, E + 1, hZ, by clear hxe hZ; omega⟩
        · exact ⟨by omega, Int.le_refl _, E0, HX.out, by omega⟩
        · rintro x ⟨h1, h2, E, rfl, h3⟩
          have r := read_nor s E F hs (by omega) (by omega) k3
          rw [← hsg] at r
          exact same_double (word_lt s E F hs (by omega) k3) hy r ry (by rw [← hv, ← vq]; congr 2; omega)
  obtain ⟨Good, q1, q2, q3, q4, q5⟩ := key
  refine (specCore _ (by omega) z1 z2 Good q1 q2 q3 ?_ w).mono ?_
  · intro p r n1 n2 hsp hp hr hn1 r1 r2 _ _
    obtain ⟨rfl, rfl⟩ := text_nums ha (by omega) (by omega) hsp hp r1 r2
    rw [← hv0]
    exact q4
  · rintro e w' ⟨hn, ⟨x, xs, hg, hx, hne, hres⟩ | ⟨rfl, hbad⟩⟩
    · obtain rfl := q5 x hg
      obtain rfl := txt_unique hx ht
      rcases hres with ⟨-, rfl⟩ | ⟨h, -⟩
      · exact ⟨rfl, hn⟩
      · exact absurd rfl h
    · exact absurd ⟨sg, a, q, ha, ha53, by omega, by omega, rfl⟩ hbad

theorem specParse_yes (s : ByteArray) (y : Nat) (h : IsTxt s y) (w : World) :
    Calls Tryz.prog 142 #[.string s] w fun e w' => e = .returned (.tuple #[.float .f64 y, .bool true]) ∧ Nw w w' := by
  obtain ⟨hy, hf, xs, ht, rfl⟩ := h
  rcases ht with ⟨h, _⟩ | ⟨rfl, rfl⟩ | ⟨rfl, rfl⟩ | ⟨sg, m, p, a, q, b1, b2, b3, b4, b5, b6, b7, rfl⟩
  · rw [hf] at h; cases h
  · exact spec_zero _ _ (.inl ⟨rfl, rfl⟩) w
  · exact spec_zero _ _ (.inr ⟨rfl, rfl⟩) w
  · exact specParse_text sg a q b3 b4 y m p hy b1 b2 b5 ⟨b6, b7⟩ w

theorem specParse_no (s : ByteArray) (hs : s.size ≤ 1048576) (h : ∀ y, ¬ IsTxt s y) (w : World) :
    Calls Tryz.prog 142 #[.string s] w fun e w' => e = .returned (.tuple #[.float .f64 0, .bool false]) ∧ Nw w w' := by
  have h1 : s ≠ ⟨#[48]⟩ := by rintro rfl; exact h 0 ⟨by decide, by decide, [48], .inr (.inl ⟨rfl, rfl⟩), rfl⟩
  have h2 : s ≠ ⟨#[45, 48]⟩ := by rintro rfl; exact h 9223372036854775808 ⟨by decide, by decide, [45, 48], .inr (.inr (.inl ⟨rfl, rfl⟩)), rfl⟩
  refine (specCore s hs (str_ne h1) (str_ne h2) (fun _ x => x < 18446744073709551616) (fun _ _ h => h) (fun _ x w _ _ => fres_wf w .mul .f64 x _) (fun _ x w _ _ => fres_wf w .quo .f64 x _) (fun _ _ n1 _ _ _ _ _ _ _ _ _ => float_int_lt n1) w).mono ?_
  rintro e w' ⟨hn, ⟨x, xs, hg, hx, hne, hres⟩ | ⟨rfl, -⟩⟩
  · rcases hres with ⟨rfl, -⟩ | ⟨-, rfl⟩
    · exfalso
      rcases Bool.eq_false_or_eq_true (fin .f64 x) with hf | hf
      · exact h x ⟨hg, hf, xs, hx, rfl⟩
      · have : xs = [] := by
          rcases hx with ⟨_, rfl⟩ | ⟨rfl, _⟩ | ⟨rfl, _⟩ | ⟨sg, m, p, a, q, b1, _⟩
          · rfl
          · exact absurd hf (by decide)
          · exact absurd hf (by decide)
          · rw [fin_num ⟨_, _, _, b1⟩] at hf; cases hf
        subst this
        exact hne rfl
    · exact ⟨rfl, hn⟩
  · exact ⟨rfl, hn⟩
end Go.Proofs.YtnmjkjjmigiabaaGreatDoor

/- The law FnExactParseDouble as a call.
   Conditions: those that each statement names. -/
namespace Go.Proofs.YtnmjkjjmigiabaaGreatDoor
set_option linter.unusedSimpArgs false
set_option linter.unusedVariables false
open Go Go.RowKit

end Go.Proofs.YtnmjkjjmigiabaaGreatDoor

/- The law FnExactFormatSingle as a call.
   Conditions: those that each statement names. -/
namespace Go.Proofs.YtnmjkjjmigiabaaGreatDoor
set_option linter.unusedSimpArgs false
set_option linter.unusedVariables false
open Go Go.RowKit

theorem nan_fin64 {y : Nat} (h : nan64 y = true) : fin .f64 y = false := by
  unfold nan64 at h
  unfold fin
  cases hd : FloatKind.f64.decode y <;> rw [hd] at h <;> simp_all [Ieee.Datum.isNaN]

/-- the texts of a number of single precision, however its NaN is widened -/
theorem txt_wide {x : Nat} {w1 w2 : World} {xs ys : List Int} (h1 : TxtOf (fcv w1 .f32 x .f64) xs) (h2 : TxtOf (fcv w2 .f32 x .f64) ys) : xs = ys := by
  cases hn : nan32 x with
  | false =>
    rw [fcv_wide hn] at h1 h2
    exact txt_unique h1 h2
  | true =>
    have g1 := nan_fin64 (nan_wide hn w1)
    have g2 := nan_fin64 (nan_wide hn w2)
    have key : ∀ {y : Nat} {zs : List Int}, fin .f64 y = false → TxtOf y zs → zs = [] := by
      intro y zs hf ht
      have f0 : fin .f64 0 = true := by decide
      have f1 : fin .f64 9223372036854775808 = true := by decide
      rcases ht with ⟨_, rfl⟩ | ⟨rfl, rfl⟩ | ⟨rfl, rfl⟩ | ⟨sg, m, p, a, q, b1, b2, _⟩
      · rfl
      · rw [f0] at hf; simp at hf
      · rw [f1] at hf; simp at hf
      · rw [fin_num ⟨_, _, _, b1⟩] at hf; simp at hf
    rw [key g1 h1, key g2 h2]

def TxtS (x : Nat) (w : World) (e : Ending) (w' : World) : Prop := ∃ xs w1, e = .returned (.string (strOfNums xs)) ∧ TxtOf (fcv w1 .f32 x .f64) xs ∧ Nw w w'

set_option maxRecDepth 100000 in
theorem specTextS (x : Nat) (hx : x < 4294967296) (w : World) : Calls Tryz.prog 76 #[.float .f32 x] w (TxtS x w) := by
  have hx2 : ∀ w, fcv w .f32 x .f64 < 18446744073709551616 := fun w => fcv_wf w .f32 x .f64 hx
  go_enter Tryz.func76, Tryz.ntmps76
  go_wp2_with fail
  refine (specText _ (hx2 _) _).mono ?_
  rintro e w1 ⟨xs, rfl, t1, n1⟩
  have N1 := Lib.hid (((Nw.refl w).draw _).trans n1)
  have T1 := Lib.hid t1
  clear n1 t1
  go_wp2_with fail
  go_ret
  exact ⟨xs, _, rfl, T1.out, N1.out⟩

set_option maxRecDepth 100000 in
theorem implTextS (x : Nat) (hx : x < 4294967296) (w : World) (hT : TabAt 1 Lib.deBruijn64tab w) (ht : Lib.TabIs Tryz.prog w "internal/strconv.uint64pow10" .u64 Lib.pow10Tab) : Calls Tryz.prog 13 #[.float .f32 x] w (TxtS x w) := by
  have hx2 : ∀ w, fcv w .f32 x .f64 < 18446744073709551616 := fun w => fcv_wf w .f32 x .f64 hx
  have T := Lib.hid (And.intro hT ht)
  clear hT ht
  go_enter Tryz.func13, Tryz.ntmps13
  go_wp2_with fail
  refine (implText _ (hx2 _) _ (tabAt_nw ((Nw.refl w).draw _) (tabAt_lt T.out.1) T.out.1) (tab_nw ((Nw.refl w).draw _) T.out.2)).mono ?_
  rintro e w1 ⟨xs, rfl, t1, n1⟩
  have N1 := Lib.hid (((Nw.refl w).draw _).trans n1)
  have T1 := Lib.hid t1
  clear n1 t1
  go_wp2_with fail
  go_ret
  exact ⟨xs, _, rfl, T1.out, N1.out⟩

end Go.Proofs.YtnmjkjjmigiabaaGreatDoor

/- The law FnExactParseSingle as a call.
   Conditions: those that each statement names. -/
namespace Go.Proofs.YtnmjkjjmigiabaaGreatDoor
set_option linter.unusedSimpArgs false
set_option linter.unusedVariables false
open Go Go.RowKit

/-- a number of single precision, widened and narrowed, is the same -/
theorem nar_back {r : Nat} (hr : r < 4294967296) (h : Sm r) : (∀ w, fcv w .f64 (wid r) .f32 = r) ∧ fcd .f64 (wid r) .f32 = 0 := by
  obtain ⟨s, m, i, hx⟩ := h
  obtain ⟨n, j, hz, he⟩ := wid_read hx
  obtain ⟨h1, h2, h3⟩ := single_bound hx
  have e1 : Ieee.single.leastPlace = -149 := by decide
  have e2 : (2 ^ Ieee.single.exponentBits : Nat) = 256 := by decide
  obtain ⟨m', p', w1, w4⟩ := Flo.write_exact_top Ieee.single (by decide) s n j m i he (Nat.lt_of_lt_of_le h1 (by decide)) (by omega) (by omega)
  have hd : FloatKind.f64.decode (wid r) = .number s n j := hz
  have hr2 : FloatKind.f32.decode (FloatKind.f32.encode (.number s n j)) = .number s m' p' := w1
  have eq : FloatKind.f32.encode (.number s n j) = r := Flo.read_inj Ieee.single w1 hx (Ieee.Format.write_lt _ _) hr (by rw [w4, he])
  constructor
  · intro w
    unfold fcv
    rw [if_neg (by decide), hd]
    simp only
    rw [hr2]
    simp only [Ieee.Datum.isInfinity, Bool.false_eq_true, if_false]
    exact eq
  · unfold fcd
    rw [if_neg (by decide), hd]
    simp only
    rw [hr2]
    simp [Ieee.Datum.isInfinity]

/-- a double that single precision has -/
def Rep (y : Nat) : Prop := ∃ r, r < 4294967296 ∧ Sm r ∧ wid r = y

theorem txt_form {x : Nat} {xs : List Int} (hf : fin .f64 x = true) (h : TxtOf x xs) : (x = 0 ∧ xs = [48]) ∨ (x = 9223372036854775808 ∧ xs = [45, 48]) ∨ ∃ (sg : Bool) (m : Nat) (p : Int) (a : Nat) (q : Int), Ieee.double.read x = .number sg m p ∧ m ≠ 0 ∧ a % 2 = 1 ∧ a < 9007199254740992 ∧ (a : Rat) * Flo.pw q = (m : Rat) * Flo.pw p ∧ -2000 ≤ q ∧ q ≤ 2000 ∧ xs = sgn sg ++ (dgs a ++ 112 :: numL q) := by
  rcases h with ⟨h, _⟩ | h | h | h
  · rw [hf] at h; cases h
  · exact .inl h
  · exact .inr (.inl h)
  · exact .inr (.inr h)

/-- a text belongs to one double -/
theorem txt_inj {x y : Nat} {xs ys : List Int} (hx : x < 18446744073709551616) (hy : y < 18446744073709551616) (fy : fin .f64 y = true) (tx : TxtOf x xs) (ty : TxtOf y ys) (h : strOfNums xs = strOfNums ys) : x = y := by
  have hb : byts xs = byts ys := by rw [← byts_str, ← byts_str, h]
  have hl : xs.length = ys.length := by have := congrArg List.length hb; unfold byts at this; simpa using this
  have fx : fin .f64 x = true := by
    rcases Bool.eq_false_or_eq_true (fin .f64 x) with hf | hf
    · exact hf
    · exfalso
      have e : xs = [] := by
        rcases tx with ⟨_, rfl⟩ | ⟨rfl, _⟩ | ⟨rfl, _⟩ | ⟨sg, m, p, a, q, b1, _⟩
        · rfl
        · exact absurd hf (by decide)
        · exact absurd hf (by decide)
        · rw [fin_num ⟨_, _, _, b1⟩] at hf; cases hf
      subst e
      rcases txt_form fy ty with ⟨_, rfl⟩ | ⟨_, rfl⟩ | ⟨sg, m, p, a, q, b1, b2, b3, b4, b5, b6, b7, rfl⟩
      · simp at hl
      · simp at hl
      · have := (text_len sg a q (by omega) ⟨b6, b7⟩).1
        rw [← hl] at this
        simp at this
  rcases txt_form fx tx with ⟨rfl, rfl⟩ | ⟨rfl, rfl⟩ | ⟨sg, m, p, a, q, b1, b2, b3, b4, b5, b6, b7, rfl⟩
  · rcases txt_form fy ty with ⟨rfl, rfl⟩ | ⟨rfl, rfl⟩ | ⟨sg, m, p, a, q, b1, b2, b3, b4, b5, b6, b7, rfl⟩
    · rfl
    · simp at hl
    · have := (text_len sg a q (by omega) ⟨b6, b7⟩).1
      rw [← hl] at this
      simp at this
  · rcases txt_form fy ty with ⟨rfl, rfl⟩ | ⟨rfl, rfl⟩ | ⟨sg, m, p, a, q, b1, b2, b3, b4, b5, b6, b7, rfl⟩
    · simp at hl
    · rfl
    · have := (text_len sg a q (by omega) ⟨b6, b7⟩).1
      rw [← hl] at this
      simp at this
  · rcases txt_form fy ty with ⟨rfl, rfl⟩ | ⟨rfl, rfl⟩ | ⟨sg', m', p', a', q', c1, c2, c3, c4, c5, c6, c7, rfl⟩
    · have := (text_len sg a q (by omega) ⟨b6, b7⟩).1
      rw [hl] at this
      simp at this
    · have := (text_len sg a q (by omega) ⟨b6, b7⟩).1
      rw [hl] at this
      simp at this
    · rw [form_cut, form_cut] at hb
      obtain ⟨e1, e2⟩ := cut_unique hb (fun hm => pre_no_p sg a (by omega) _ hm rfl) (fun hm => pre_no_p sg' a' (by omega) _ hm rfl)
      have k1 := parseInt_ok sg a (by omega)
      have k2 := parseInt_ok sg' a' (by omega)
      rw [e1, k2] at k1
      injection k1 with k1
      have k3 := atoi_ok q (by omega)
      have k4 := atoi_ok q' (by omega)
      rw [e2, k4] at k3
      injection k3 with k3
      subst k3
      have ea : a' = a ∧ sg' = sg := by
        cases sg <;> cases sg' <;> simp at k1 <;> first | exact ⟨by omega, rfl⟩ | (exfalso; omega)
      obtain ⟨rfl, rfl⟩ := ea
      exact Flo.read_inj Ieee.double b1 c1 hx hy (by rw [← b5, ← c5])

theorem rep_of {x w1} {y : Nat} (hx : x < 4294967296) (hy : fin .f64 y = true) (h : fcv w1 .f32 x .f64 = y) : Rep y := by
  cases hn : nan32 x with
  | true =>
    have := nan_wide hn w1
    rw [h] at this
    rw [nan_fin64 this] at hy
    cases hy
  | false =>
    rw [fcv_wide hn] at h
    refine ⟨x, hx, ?_, h⟩
    cases hd : Ieee.single.read x with
    | number s m p => exact ⟨s, m, p, hd⟩
    | nan s f =>
      unfold nan32 at hn
      rw [show FloatKind.f32.decode x = _ from hd] at hn
      cases hn
    | infinity s =>
      exfalso
      have e : FloatKind.f64.decode (wid x) = .infinity s := by
        unfold wid
        rw [show FloatKind.f32.decode x = _ from hd]
        cases s <;> decide
      rw [h] at e
      unfold fin at hy
      rw [e] at hy
      cases hy

theorem rep_zero : Rep 0 ∧ Rep 9223372036854775808 :=
  ⟨⟨0, by decide, ⟨false, 0, -149, by decide⟩, by decide⟩, ⟨2147483648, by decide, ⟨true, 0, -149, by decide⟩, by decide⟩⟩

/-- what is no number of single precision is not equal to one -/
theorem not_rep {x y : Nat} (hx : x < 4294967296) (hy : y < 18446744073709551616) (fy : fin .f64 y = true) (h : ¬ Rep y) (w1 : World) : (FloatKind.f64.format.order (fcv w1 .f32 x .f64) y == some .eq) = false := by
  cases hq : (FloatKind.f64.format.order (fcv w1 .f32 x .f64) y == some .eq) with
  | false => rfl
  | true =>
    exfalso
    have ho : FloatKind.f64.format.order (fcv w1 .f32 x .f64) y = some .eq := by simpa using hq
    have hz : fcv w1 .f32 x .f64 < 18446744073709551616 := fcv_wf w1 .f32 x .f64 hx
    rcases txt_cases y hy with hf | rfl | rfl | ⟨sg, m, p, ry, hm⟩
    · rw [hf] at fy; cases fy
    · exact h rep_zero.1
    · exact h rep_zero.2
    · apply h
      apply rep_of hx fy (w1 := w1)
      cases hd : Ieee.double.read (fcv w1 .f32 x .f64) with
      | nan s f => rw [show FloatKind.f64.format = Ieee.double from rfl] at ho; unfold Ieee.Format.order at ho; rw [hd, ry] at ho; cases ho
      | infinity s => rw [show FloatKind.f64.format = Ieee.double from rfl] at ho; unfold Ieee.Format.order at ho; rw [hd, ry] at ho; cases s <;> cases ho
      | number s n q =>
        have o := (Flo.order_num Ieee.double _ y ⟨_, _, _, hd⟩ ⟨_, _, _, ry⟩).2.1.1 ho
        rw [Flo.V_eq hd, Flo.V_eq ry] at o
        have h1 : (0 : Rat) < (m : Rat) := by exact_mod_cast Nat.pos_of_ne_zero hm
        have hV : 0 < (m : Rat) * Flo.pw p := Rat.mul_pos h1 (Flo.pw_pos p)
        obtain ⟨n', q', r', v'⟩ := sign_of (sg := sg) (V := (m : Rat) * Flo.pw p) ⟨_, _, _, hd⟩ hV (by
          rw [show Flo.W (fcv w1 .f32 x .f64) = _ from Flo.V_eq hd, o]
          unfold Flo.val
          cases sg
          · simp
          · simp; grind)
        exact Flo.read_inj Ieee.double r' ry hz hy v'
theorem eq_self {y : Nat} (fy : fin .f64 y = true) : (FloatKind.f64.format.order y y == some .eq) = true := by
  rw [order_self]
  unfold fin at fy
  cases hd : FloatKind.f64.decode y <;> rw [hd] at fy <;> simp_all [Ieee.Datum.isNaN]

/-- the answers: a number of single precision, or 0 and false -/
def PsP (s : ByteArray) (w : World) (e : Ending) (w' : World) : Prop :=
  Nw w w' ∧ ((∃ r, r < 4294967296 ∧ Sm r ∧ IsTxt s (wid r) ∧ e = .returned (.tuple #[.float .f32 r, .bool true])) ∨ ((∀ r, r < 4294967296 → Sm r → ¬ IsTxt s (wid r)) ∧ e = .returned (.tuple #[.float .f32 0, .bool false])))

theorem isTxt_unique {s : ByteArray} {x y : Nat} (h1 : IsTxt s x) (h2 : IsTxt s y) : x = y := by
  obtain ⟨hx, fx, xs, tx, rfl⟩ := h1
  obtain ⟨hy, fy, ys, ty, e⟩ := h2
  exact txt_inj hx hy fy tx ty e

set_option maxRecDepth 100000 in
theorem implSingle (s : ByteArray) (hs : s.size ≤ 1048576) (w : World) (hL : LibW w) :
    Calls Tryz.prog 12 #[.string s] w (PsP s w) := by
  by_cases hy : ∃ y, IsTxt s y
  · obtain ⟨y, hy⟩ := hy
    have P := Lib.hid (implParse_yes s y hy w hL)
    by_cases hrep : Rep y
    · obtain ⟨r, hr, hsm, rfl⟩ := hrep
      obtain ⟨c1, c2⟩ := nar_back hr hsm
      have c3 := fun w => fcv_up hsm w
      have c4 := fcd_up hsm
      have es := eq_self hy.2.1
      have e3 : (FloatKind.f64.format.order (wid r) (wid r) != some .eq) = false := by unfold bne; rw [es]; rfl
      have H := Lib.hid (And.intro hy (And.intro hr hsm))
      clear hy hr hsm es
      go_enter Tryz.func12, Tryz.ntmps12
      go_wp2_with fail
      refine P.out.mono ?_
      rintro e w1 ⟨rfl, n1⟩
      have N1 := Lib.hid n1
      clear n1
      go_wp2_with fail
      all_goals
        go_ret2
        exact ⟨N1.out, .inl ⟨r, H.out.2.1, H.out.2.2, H.out.1, rfl⟩⟩
    · have hw : ∀ w, fcv w .f64 y .f32 < 4294967296 := fun w => fcv_wf w .f64 y .f32 hy.1
      have ne : ∀ w1 w2, (FloatKind.f64.format.order (fcv w1 .f32 (fcv w2 .f64 y .f32) .f64) y != some .eq) = true := fun w1 w2 => by unfold bne; rw [not_rep (hw w2) hy.1 hy.2.1 hrep w1]; rfl
      have B := Lib.hid (show ∀ r, r < 4294967296 → Sm r → ¬ IsTxt s (wid r) from fun r hr hsm ht => hrep ⟨r, hr, hsm, isTxt_unique ht hy⟩)
      clear hy hrep hw
      go_enter Tryz.func12, Tryz.ntmps12
      go_wp2_with fail
      refine P.out.mono ?_
      rintro e w1 ⟨rfl, n1⟩
      have N1 := Lib.hid n1
      clear n1
      go_wp2_with fail
      all_goals
        go_ret2
        exact ⟨N1.out.draw _, .inr ⟨B.out, rfl⟩⟩
  · have hno : ∀ y, ¬ IsTxt s y := fun y h => hy ⟨y, h⟩
    have P := Lib.hid (implParse_no s hs hno w hL)
    have B := Lib.hid hno
    clear hy hno
    go_enter Tryz.func12, Tryz.ntmps12
    go_wp2_with fail
    refine P.out.mono ?_
    rintro e w1 ⟨rfl, n1⟩
    have N1 := Lib.hid n1
    clear n1
    go_wp2_with fail
    all_goals
      go_ret2
      exact ⟨by first | exact N1.out | exact N1.out.draw _, .inr ⟨fun r _ _ => B.out _, rfl⟩⟩

set_option maxRecDepth 100000 in
theorem specSingle (s : ByteArray) (hs : s.size ≤ 1048576) (w : World) :
    Calls Tryz.prog 87 #[.string s] w (PsP s w) := by
  by_cases hy : ∃ y, IsTxt s y
  · obtain ⟨y, hy⟩ := hy
    have P := Lib.hid (specParse_yes s y hy w)
    by_cases hrep : Rep y
    · obtain ⟨r, hr, hsm, rfl⟩ := hrep
      obtain ⟨c1, c2⟩ := nar_back hr hsm
      have T := Lib.hid (fun w => specTextS r hr w)
      have H := Lib.hid (And.intro hy (And.intro hr hsm))
      clear hy hr hsm
      go_enter Tryz.func87, Tryz.ntmps87
      go_wp2_with fail
      refine P.out.mono ?_
      rintro e w1 ⟨rfl, n1⟩
      have N1 := Lib.hid n1
      clear n1
      go_wp2_with fail
      refine (T.out _).mono ?_
      rintro e w2 ⟨xs, u, rfl, tx, n2⟩
      have N2 := Lib.hid (N1.out.trans n2)
      have es : strOfNums xs = s := by
        obtain ⟨-, -, ys, ty, rfl⟩ := H.out.1
        rw [fcv_up H.out.2.2] at tx
        rw [txt_unique tx ty]
      clear n2 tx
      subst es
      go_wp2_with fail
      all_goals
        go_ret2
        exact ⟨by first | exact N2.out | exact N2.out.draw _, .inl ⟨r, H.out.2.1, H.out.2.2, H.out.1, rfl⟩⟩
    · have hw : ∀ w, fcv w .f64 y .f32 < 4294967296 := fun w => fcv_wf w .f64 y .f32 hy.1
      have T := Lib.hid (fun w w2 => specTextS (fcv w2 .f64 y .f32) (hw w2) w)
      have B := Lib.hid (show ∀ r, r < 4294967296 → Sm r → ¬ IsTxt s (wid r) from fun r hr hsm ht => hrep ⟨r, hr, hsm, isTxt_unique ht hy⟩)
      have H := Lib.hid (And.intro hy (And.intro hrep hw))
      clear hy hrep hw
      go_enter Tryz.func87, Tryz.ntmps87
      go_wp2_with fail
      refine P.out.mono ?_
      rintro e w1 ⟨rfl, n1⟩
      have N1 := Lib.hid n1
      clear n1
      go_wp2_with fail
      refine (T.out _ _).mono ?_
      rintro e w2 ⟨xs, u, rfl, tx, n2⟩
      have N2 := Lib.hid ((N1.out.draw _).trans n2)
      have ne : strOfNums xs ≠ s := by
        intro h
        obtain ⟨hy, fy, ys, ty, e2⟩ := H.out.1
        have hz := fcv_wf u .f32 (fcv w1 .f64 y .f32) .f64 (H.out.2.2 w1)
        have := txt_inj hz hy fy tx ty (by rw [h, e2])
        exact H.out.2.1 (rep_of (H.out.2.2 w1) fy this)
      have g : ((strOfNums xs).toList == s.toList) = false := by
        cases hq : ((strOfNums xs).toList == s.toList) with
        | false => rfl
        | true =>
          exfalso
          apply ne
          have h2 : (strOfNums xs).toList = s.toList := by simpa using hq
          rw [ByteArray.toList_eq, ByteArray.toList_eq] at h2
          apply ByteArray.ext
          exact Array.toList_inj.1 h2
      clear n2 tx ne
      go_wp2_with fail
      all_goals
        go_ret2
        exact ⟨N2.out, .inr ⟨B.out, rfl⟩⟩
  · have hno : ∀ y, ¬ IsTxt s y := fun y h => hy ⟨y, h⟩
    have P := Lib.hid (specParse_no s hs hno w)
    have B := Lib.hid hno
    clear hy hno
    go_enter Tryz.func87, Tryz.ntmps87
    go_wp2_with fail
    refine P.out.mono ?_
    rintro e w1 ⟨rfl, n1⟩
    have N1 := Lib.hid n1
    clear n1
    go_wp2_with fail
    all_goals
      go_ret2
      exact ⟨by first | exact N1.out | exact N1.out.draw _, .inr ⟨fun r _ _ => B.out _, rfl⟩⟩

theorem psp_same {s : ByteArray} {w w1 w2 w3 : World} {e1 e2 : Ending} (h1 : PsP s w e1 w1) (h2 : PsP s w2 e2 w3) : ∃ r b, r < 4294967296 ∧ Sm r ∧ e1 = .returned (.tuple #[.float .f32 r, .bool b]) ∧ e2 = .returned (.tuple #[.float .f32 r, .bool b]) := by
  obtain ⟨-, ⟨r, hr, hsm, ht, rfl⟩ | ⟨hno, rfl⟩⟩ := h1
  · obtain ⟨-, ⟨r', hr', hsm', ht', rfl⟩ | ⟨hno', rfl⟩⟩ := h2
    · have e := isTxt_unique ht ht'
      have er : r = r' := by rw [← (nar_back hr hsm).1 default, ← (nar_back hr' hsm').1 default, e]
      subst er
      exact ⟨r, true, hr, hsm, rfl, rfl⟩
    · exact absurd ht (hno' r hr hsm)
  · obtain ⟨-, ⟨r', hr', hsm', ht', rfl⟩ | ⟨hno', rfl⟩⟩ := h2
    · exact absurd ht' (hno r' hr' hsm')
    · exact ⟨0, false, by decide, ⟨false, 0, -149, by decide⟩, rfl, rfl⟩

end Go.Proofs.YtnmjkjjmigiabaaGreatDoor

/- The model's l1Split at any byte (XSpl: at 'p').
   Conditions: those that each statement names. -/
namespace Go.Proofs.YtnmjkjjmigiabaaGreatDoor
set_option linter.unusedSimpArgs false
set_option linter.unusedVariables false
open Go Go.RowKit

/-- pieces, each behind with its 'p' -/
def glueC (c : UInt8) (ps : List (List UInt8)) : List UInt8 := (ps.map fun p => p ++ [c]).flatten
def SplIC (c : UInt8) (l : List UInt8) (w0 : World) (v st i : Value) (wr : World) : Prop :=
  ∃ (ps : List (List UInt8)) (a k : Nat), st = .int .i64 (a : Int) ∧ i = .int .i64 (k : Int) ∧ a ≤ k ∧ k ≤ l.length ∧ l.take a = glueC c ps ∧ (∀ p ∈ ps, c ∉ p) ∧ c ∉ (l.take k).drop a ∧ ps.length ≤ k ∧ wr.ownsRow w0.heap.size 9 1 v ps.length (cellsT ps) ∧ Nw w0 wr
/-- the pieces of a string -/
def SplPC (c : UInt8) (l : List UInt8) (w : World) (e : Ending) (w' : World) : Prop :=
  ∃ (ps : List (List UInt8)) (r : List UInt8) (v : Value), e = .returned v ∧ l = glueC c ps ++ r ∧ (∀ p ∈ ps, c ∉ p) ∧ c ∉ r ∧ w'.ownsRow w.heap.size 9 1 v (ps.length + 1) (cellsT (ps ++ [r])) ∧ Nw w w'

theorem take_glueC {c : UInt8} {l : List UInt8} {a k : Nat} {ps : List (List UInt8)} (ha : a ≤ k) (hk : k < l.length) (h : l.take a = glueC c ps) (hb : l[k] = c) : l.take (k + 1) = glueC c (ps ++ [(l.take k).drop a]) := by
  have e : l.take k = l.take a ++ (l.take k).drop a := by
    conv => lhs; rw [← List.take_append_drop a (l.take k)]
    rw [List.take_take, Nat.min_eq_left ha]
  have g : glueC c (ps ++ [(l.take k).drop a]) = glueC c ps ++ ((l.take k).drop a ++ [c]) := by unfold glueC; simp
  rw [g, ← h, ← List.append_assoc, ← e, List.take_succ_eq_append_getElem hk, hb]

set_option maxHeartbeats 3200000 in
set_option maxRecDepth 100000 in
theorem l1Split_any (c : UInt8) (s : ByteArray) (hs : s.size ≤ 1048576) (w : World) :
    Calls Tryz.prog 78 #[.string s, .int .u8 (c.toNat : Int)] w (SplPC c s.data.toList w) := by
  obtain ⟨i0, hi, hz0, hz1, hz2⟩ := info_parts info_str
  have hl : s.data.toList.length = s.size := Array.length_toList
  go_enter Tryz.func78, Tryz.ntmps78
  go_wp2_with fail
  have Hown := Lib.hid (World.ownsRow_lit (base := w.heap.size) (e := 9) (size := 1) w #[] 0 (Nat.le_refl _) (by decide) rfl)
  go_loopw [5, 6, 7] (fun v st i wr => SplIC c s.data.toList w v st i wr) (fun _ _ i _ => s.size - (intOf i).toNat)
  case atStart => exact ⟨[], 0, 0, rfl, rfl, Nat.le_refl _, Nat.zero_le _, by simp [glueC], by simp, by simp, by simp, Hown.out, (Nw.refl w).alloc _⟩
  case round =>
    obtain ⟨ps, a, k, rfl, rfl, hak, hk, htk, hps, hno, hlen, hown, hN⟩ := hrel
    have Hk := Lib.hid (And.intro htk (And.intro hps hno))
    obtain ⟨sa, sl, sc, rfl⟩ := own_shape hown
    have Hown2 := Lib.hid hown
    have Nr := Lib.hid hN
    have hN0 := Nr
    clear htk hps hno hown hN
    have hsz := Lib.hid (show w.heap.size ≤ wr.heap.size from hN0.out.size)
    by_cases hlt : k < s.size
    · have hkl : k < s.data.toList.length := by omega
      have hbk : s.data.toList[k]'hkl = s[k] := rfl
      by_cases hb : s[k] = c
      · have hb' : (((s[k]).toNat : Int) == (c.toNat : Int)) = true := by rw [hb]; simp
        have HB := Lib.hid (And.intro hkl (And.intro hb hbk))
        clear hb hbk
        have hsl : ∀ W, (Instr.sliceAt 9 (.string s) (some (.int .i64 (a : Int))) (some (.int .i64 (k : Int))) none).run Tryz.prog W = .ok (.string (s.extract a k)) W := fun W => by
          exact slice_lh s a k hak (by omega) W
        go_wp2_with (at_builtin; refine wpList_append_own _ rfl _ _ 119 rfl w.heap.size 9 i0 (.string ⟨#[]⟩) 1 16 Tryz.underlying119 hi hz0 hz1 hz2 rfl (by decide) _ _ _ rfl (Hown2.out.alloc _) ⟨wr.heap.size, 0, none⟩ 1 1 [.string (s.extract a k)] rfl rfl ?c1 ?c2 ?c3 ?c4 ?c5 ?_)
        case c2 => rfl
        case c3 => unfold maxLen; omega
        case c4 => omega
        case c5 => have := hsz.out; simp; omega
        · intro v' w4 hown4 hgrow _
          have hrow : ∀ q, (Value.slice sa sl sc).ownBlock = some q → w.heap.size ≤ q := fun q hq => own_ge Hown2.out q hq
          have Nw4 := Lib.hid (nwg (Nr.out.alloc _) hgrow hrow)
          have e : cellsT ps ++ [Value.string (s.extract a k)] = cellsT (ps ++ [(s.data.toList.take k).drop a]) := by rw [ext_bytes]; simp [cellsT]
          rw [e, show ps.length + 1 = (ps ++ [(s.data.toList.take k).drop a]).length from by simp] at hown4
          have Hown4 := Lib.hid hown4
          clear hown4 hgrow hrow e
          go_wp2_with fail
          go_roundw
          case rel =>
            refine ⟨ps ++ [(s.data.toList.take k).drop a], k + 1, k + 1, by rw [show ((k + 1 : Nat) : Int) = (k : Int) + 1 from by omega], by rw [show ((k + 1 : Nat) : Int) = (k : Int) + 1 from by omega], Nat.le_refl _, by omega, take_glueC hak HB.out.1 Hk.out.1 (by rw [HB.out.2.2]; exact HB.out.2.1), ?_, ?_, by simp; omega, Hown4.out, Nw4.out⟩
            · intro q hq
              rcases List.mem_append.1 hq with hq | hq
              · exact Hk.out.2.1 q hq
              · simp at hq; subst hq; exact Hk.out.2.2
            · rw [List.drop_eq_nil_of_le (by rw [List.length_take]; omega)]; simp
          case measure => simp only [intOf]; omega
      · have hb' : (((s[k]).toNat : Int) == (c.toNat : Int)) = false := by
          cases h : (((s[k]).toNat : Int) == (c.toNat : Int)) with
          | false => rfl
          | true =>
            exfalso
            apply hb
            have h2 : ((s[k]).toNat : Int) = (c.toNat : Int) := by simpa using h
            apply UInt8.toNat_inj.1
            omega
        have HB := Lib.hid (And.intro hkl (And.intro hb hbk))
        clear hb hbk
        go_wp2_with fail
        go_roundw
        case rel =>
          refine ⟨ps, a, k + 1, rfl, by rw [show ((k + 1 : Nat) : Int) = (k : Int) + 1 from by omega], by omega, by omega, Hk.out.1, Hk.out.2.1, ?_, by omega, Hown2.out, Nr.out⟩
          rw [drop_snoc hak hkl]
          intro hm
          rcases List.mem_append.1 hm with hm | hm
          · exact Hk.out.2.2 hm
          · simp at hm
            exact HB.out.2.1 (by rw [← HB.out.2.2]; exact hm.symm)
        case measure => simp only [intOf]; omega
    · have hks : k = s.size := by omega
      go_wp2_with (at_builtin; refine wpList_append_own _ rfl _ _ 119 rfl w.heap.size 9 i0 (.string ⟨#[]⟩) 1 16 Tryz.underlying119 hi hz0 hz1 hz2 rfl (by decide) _ _ _ rfl (Hown2.out.alloc _) ⟨wr.heap.size, 0, none⟩ 1 1 [.string (s.extract a s.size)] rfl rfl ?d1 ?d2 ?d3 ?d4 ?d5 ?_)
      case d2 => rfl
      case d3 => unfold maxLen; omega
      case d4 => omega
      case d5 => have := hsz.out; simp; omega
      · intro v' w4 hown4 hgrow _
        have hrow : ∀ q, (Value.slice sa sl sc).ownBlock = some q → w.heap.size ≤ q := fun q hq => own_ge Hown2.out q hq
        have Nw4 := Lib.hid (nwg (Nr.out.alloc _) hgrow hrow)
        have e : cellsT ps ++ [Value.string (s.extract a s.size)] = cellsT (ps ++ [(s.data.toList.take s.size).drop a]) := by rw [ext_bytes]; simp [cellsT]
        rw [e] at hown4
        have Hown4 := Lib.hid hown4
        clear hown4 hgrow hrow e
        go_wp2_with fail
        go_ret
        refine ⟨ps, (s.data.toList.take s.size).drop a, _, rfl, ?_, Hk.out.2.1, ?_, Hown4.out, Nw4.out⟩
        · rw [← Hk.out.1, ← hl, List.take_length, List.take_append_drop]
        · rw [← hks]; exact Hk.out.2.2

end Go.Proofs.YtnmjkjjmigiabaaGreatDoor

/- Texts cut at a byte, and lines of a word and numbers: plain.
   Conditions: those that each statement names. -/
namespace Go.Proofs.YtnmjkjjmigiabaaGreatDoor
set_option linter.unusedSimpArgs false
set_option linter.unusedVariables false
open Go Go.RowKit

/-! ### pieces -/
/-- the pieces of a text between all occurrences of a byte -/
def spl (c : UInt8) : List UInt8 → List (List UInt8)
  | [] => [[]]
  | b :: l => if b = c then [] :: spl c l else match spl c l with
    | [] => [[b]]
    | p :: ps => (b :: p) :: ps
theorem spl_ne (c : UInt8) (l : List UInt8) : spl c l ≠ [] := by
  cases l with
  | nil => simp [spl]
  | cons b l =>
    unfold spl
    split
    · simp
    · split <;> simp
theorem spl_none {c : UInt8} {l : List UInt8} (h : c ∉ l) : spl c l = [l] := by
  induction l with
  | nil => rfl
  | cons b l ih =>
    have hb : b ≠ c := fun e => h (by rw [e]; exact List.mem_cons_self)
    have hl : c ∉ l := fun e => h (List.mem_cons_of_mem _ e)
    unfold spl
    rw [if_neg hb, ih hl]
theorem spl_cut {c : UInt8} {p r : List UInt8} (h : c ∉ p) : spl c (p ++ c :: r) = p :: spl c r := by
  induction p with
  | nil => simp [spl]
  | cons b p ih =>
    have hb : b ≠ c := fun e => h (by rw [e]; exact List.mem_cons_self)
    have hl : c ∉ p := fun e => h (List.mem_cons_of_mem _ e)
    rw [List.cons_append, spl, if_neg hb, ih hl]
theorem spl_glue {c : UInt8} {ps : List (List UInt8)} {l : List UInt8} (h : ∀ p ∈ ps, c ∉ p) : spl c (glueC c ps ++ l) = ps ++ spl c l := by
  induction ps with
  | nil => simp [glueC]
  | cons p ps ih =>
    have e : glueC c (p :: ps) ++ l = p ++ c :: (glueC c ps ++ l) := by simp [glueC]
    rw [e, spl_cut (h p List.mem_cons_self), ih (fun q hq => h q (List.mem_cons_of_mem _ hq))]
    rfl
theorem spl_le (c : UInt8) (l : List UInt8) : (spl c l).length ≤ l.length + 1 := by
  induction l with
  | nil => simp [spl]
  | cons b l ih =>
    unfold spl
    split
    · simp; omega
    · have hn := spl_ne c l
      split
      · simp
      · rename_i p ps h
        rw [h] at ih
        simp at ih ⊢; omega
/-- the pieces put together -/
theorem spl_join {c : UInt8} {l p : List UInt8} {ps : List (List UInt8)} (h : spl c l = p :: ps) : l = p ++ (ps.map (c :: ·)).flatten := by
  induction l generalizing p ps with
  | nil => simp [spl] at h; obtain ⟨rfl, rfl⟩ := h; rfl
  | cons b l ih =>
    unfold spl at h
    split at h
    · rename_i hb
      injection h with h1 h2
      subst h1 h2 hb
      cases hs : spl b l with
      | nil => exact absurd hs (spl_ne b l)
      | cons q qs => have := ih hs; simpa using this
    · cases hs : spl c l with
      | nil => exact absurd hs (spl_ne c l)
      | cons q qs =>
        rw [hs] at h
        injection h with h1 h2
        subst h1 h2
        rw [ih hs]; rfl
theorem spl_mem {c : UInt8} {l p : List UInt8} (h : p ∈ spl c l) : c ∉ p := by
  induction l generalizing p with
  | nil => simp [spl] at h; subst h; simp
  | cons b l ih =>
    unfold spl at h
    split at h
    · rcases List.mem_cons.1 h with rfl | h
      · simp
      · exact ih h
    · rename_i hb
      cases hs : spl c l with
      | nil => exact absurd hs (spl_ne c l)
      | cons q qs =>
        rw [hs] at h
        rcases List.mem_cons.1 h with rfl | h
        · intro hm
          rcases List.mem_cons.1 hm with e | hm
          · exact hb e.symm
          · exact ih (by rw [hs]; exact List.mem_cons_self) hm
        · exact ih (by rw [hs]; exact List.mem_cons_of_mem _ h)
theorem spl_len {c : UInt8} {l p : List UInt8} (h : p ∈ spl c l) : p.length ≤ l.length := by
  induction l generalizing p with
  | nil => simp [spl] at h; subst h; simp
  | cons b l ih =>
    unfold spl at h
    split at h
    · rcases List.mem_cons.1 h with rfl | h
      · simp
      · have := ih h; simp; omega
    · cases hs : spl c l with
      | nil => exact absurd hs (spl_ne c l)
      | cons q qs =>
        rw [hs] at h
        rcases List.mem_cons.1 h with rfl | h
        · have := ih (p := q) (by rw [hs]; exact List.mem_cons_self); simp; omega
        · have := ih (p := p) (by rw [hs]; exact List.mem_cons_of_mem _ h); simp; omega
theorem spl_line {c : UInt8} {p : List UInt8} {ts : List (List UInt8)} (hp : c ∉ p) (ht : ∀ t ∈ ts, c ∉ t) : spl c (p ++ (ts.map (c :: ·)).flatten) = p :: ts := by
  induction ts generalizing p with
  | nil => simpa using spl_none hp
  | cons t ts ih =>
    have e : p ++ ((t :: ts).map (c :: ·)).flatten = p ++ c :: (t ++ (ts.map (c :: ·)).flatten) := by simp
    rw [e, spl_cut hp, ih (ht t List.mem_cons_self) (fun q hq => ht q (List.mem_cons_of_mem _ hq))]

theorem idx_none {c : UInt8} : ∀ {l : List UInt8}, c ∉ l → Lib.index l [c] = -1
  | [], _ => by simp [Lib.index]
  | b :: l, h => by
    have hb : b ≠ c := fun e => h (by rw [e]; exact List.mem_cons_self)
    have hp : ([c] : List UInt8).isPrefixOf (b :: l) = false := by simp [List.isPrefixOf, Ne.symm hb]
    rw [Lib.index, hp, idx_none (fun e => h (List.mem_cons_of_mem _ e))]
    simp
theorem idx_at {c : UInt8} : ∀ {p : List UInt8} {r : List UInt8}, c ∉ p → Lib.index (p ++ c :: r) [c] = (p.length : Int)
  | [], r, _ => by rw [List.nil_append, Lib.index]; simp [List.isPrefixOf]
  | b :: p, r, h => by
    have hb : b ≠ c := fun e => h (by rw [e]; exact List.mem_cons_self)
    have hp : ([c] : List UInt8).isPrefixOf (b :: (p ++ c :: r)) = false := by simp [List.isPrefixOf, Ne.symm hb]
    rw [List.cons_append, Lib.index, hp, idx_at (fun e => h (List.mem_cons_of_mem _ e))]
    rw [if_neg (by decide), if_neg (fun e => by have := beq_iff_eq.1 e; omega)]
    simp
theorem splitK_spl (c : UInt8) : ∀ (k : Nat) (l : List UInt8), (Lib.splitK [c] 0 k l).length = min (spl c l).length (k + 1) ∧ ((spl c l).length ≤ k + 1 → Lib.splitK [c] 0 k l = spl c l)
  | 0, l => by
    have := spl_ne c l
    cases hs : spl c l with
    | nil => exact absurd hs this
    | cons q qs =>
      refine ⟨by simp [Lib.splitK], fun h => ?_⟩
      simp at h
      subst h
      have := spl_join hs
      simp at this
      rw [Lib.splitK, this]
  | k + 1, l => by
    by_cases hm : c ∈ l
    · obtain ⟨p, r, rfl, hp⟩ := List.eq_append_cons_of_mem hm
      have e : Lib.splitK [c] 0 (k + 1) (p ++ c :: r) = p :: Lib.splitK [c] 0 k r := by
        rw [Lib.splitK, idx_at hp, if_neg (fun e => by have := beq_iff_eq.1 e; omega)]
        simp
      obtain ⟨i1, i2⟩ := splitK_spl c k r
      rw [e, spl_cut hp]
      refine ⟨by rw [List.length_cons, List.length_cons, i1]; omega, fun h => ?_⟩
      rw [i2 (by simpa using h)]
    · have e : Lib.splitK [c] 0 (k + 1) l = [l] := by rw [Lib.splitK, idx_none hm]; rfl
      rw [e, spl_none hm]
      exact ⟨by simp, fun _ => rfl⟩

/-! ### two lists, element by element -/
def All2 {α β : Type} (R : α → β → Prop) : List α → List β → Prop
  | [], [] => True
  | a :: l, b :: m => R a b ∧ All2 R l m
  | _, _ => False
theorem All2.len {α β : Type} {R : α → β → Prop} : ∀ {l : List α} {m : List β}, All2 R l m → l.length = m.length
  | [], [], _ => rfl
  | _ :: _, _ :: _, h => by simp [h.2.len]
  | [], _ :: _, h => h.elim
  | _ :: _, [], h => h.elim
theorem All2.mem {α β : Type} {R : α → β → Prop} : ∀ {l : List α} {m : List β}, All2 R l m → ∀ a ∈ l, ∃ b, R a b
  | [], [], _, a, h => by simp at h
  | x :: l, y :: m, h, a, ha => by
    rcases List.mem_cons.1 ha with rfl | ha
    · exact ⟨y, h.1⟩
    · exact h.2.mem a ha
  | [], _ :: _, h, _, _ => h.elim
  | _ :: _, [], h, _, _ => h.elim
theorem All2.snoc {α β : Type} {R : α → β → Prop} : ∀ {l : List α} {m : List β} {a : α} {b : β}, All2 R l m → R a b → All2 R (l ++ [a]) (m ++ [b])
  | [], [], _, _, _, h => ⟨h, trivial⟩
  | _ :: _, _ :: _, _, _, h, r => ⟨h.1, h.2.snoc r⟩
  | [], _ :: _, _, _, h, _ => h.elim
  | _ :: _, [], _, _, h, _ => h.elim
theorem All2.right {α β : Type} {R : α → β → Prop} (hR : ∀ a b c, R a b → R a c → b = c) : ∀ {l : List α} {m n : List β}, All2 R l m → All2 R l n → m = n
  | [], [], [], _, _ => rfl
  | _ :: _, _ :: _, _ :: _, h, k => by rw [hR _ _ _ h.1 k.1, h.2.right hR k.2]
  | [], _ :: _, _, h, _ => h.elim
  | _ :: _, [], _, h, _ => h.elim
  | [], [], _ :: _, _, k => k.elim
  | _ :: _, _ :: _, [], _, k => k.elim
theorem All2.left {α β : Type} {R : α → β → Prop} (hR : ∀ a b c, R a c → R b c → a = b) : ∀ {l k : List α} {m : List β}, All2 R l m → All2 R k m → l = k
  | [], [], [], _, _ => rfl
  | _ :: _, _ :: _, _ :: _, h, k => by rw [hR _ _ _ h.1 k.1, h.2.left hR k.2]
  | [], _, _ :: _, h, _ => h.elim
  | _ :: _, _, [], h, _ => h.elim
  | [], _ :: _, [], _, k => k.elim
  | _ :: _, [], _ :: _, _, k => k.elim
theorem All2.get {α β : Type} {R : α → β → Prop} : ∀ {l : List α} {m : List β}, All2 R l m → ∀ {k : Nat} {a : α}, l[k]? = some a → ∃ b, m[k]? = some b ∧ R a b
  | [], [], _, k, a, h => by simp at h
  | x :: l, y :: m, h, 0, a, e => by simp at e; subst e; exact ⟨y, rfl, h.1⟩
  | x :: l, y :: m, h, k + 1, a, e => by simp at e; simpa using h.2.get e
  | [], _ :: _, h, _, _, _ => h.elim
  | _ :: _, [], h, _, _, _ => h.elim
theorem All2.of_get {α β : Type} {R : α → β → Prop} : ∀ {l : List α} {m : List β}, l.length = m.length → (∀ {k : Nat} {a : α} {b : β}, l[k]? = some a → m[k]? = some b → R a b) → All2 R l m
  | [], [], _, _ => trivial
  | x :: l, y :: m, hl, h => ⟨h (k := 0) rfl rfl, All2.of_get (by simpa using hl) (fun {k a b} h1 h2 => h (k := k + 1) (by simpa using h1) (by simpa using h2))⟩
  | [], _ :: _, hl, _ => by simp at hl
  | _ :: _, [], hl, _ => by simp at hl

/-! ### texts of numbers, and lines of a word and numbers -/
structure TxK (T : List UInt8 → Nat → Prop) : Prop where
  val : ∀ {p x y}, T p x → T p y → x = y
  txt : ∀ {p q x}, T p x → T q x → p = q
  sp : ∀ {p x}, T p x → 32 ∉ p
  nl : ∀ {p x}, T p x → 10 ∉ p
def TxD (p : List UInt8) (y : Nat) : Prop := IsTxt ⟨p.toArray⟩ y
def TxS (p : List UInt8) (r : Nat) : Prop := r < 4294967296 ∧ Sm r ∧ IsTxt ⟨p.toArray⟩ (wid r)

theorem txt_bytes {y : Nat} {xs : List Int} (h : TxtOf y xs) : ∀ c ∈ byts xs, 45 ≤ c.toNat := by
  have hd : ∀ n : Nat, n < 10 ^ 18 → ∀ c ∈ byts (dgs n), 45 ≤ c.toNat := fun n hn c hc => by have := (byts_dig n hn c hc).1; omega
  rcases h with ⟨_, rfl⟩ | ⟨_, rfl⟩ | ⟨_, rfl⟩ | ⟨sg, m, p, a, q, b1, b2, b3, b4, b5, b6, b7, rfl⟩
  · simp [byts]
  · simp [byts]
  · intro c hc; simp [byts] at hc; rcases hc with rfl | rfl <;> decide
  · intro c hc
    have e : byts (sgn sg ++ (dgs a ++ 112 :: numL q)) = byts (sgn sg) ++ (byts (dgs a) ++ 112 :: byts (numL q)) := by simp [byts]
    rw [e] at hc
    rcases List.mem_append.1 hc with hc | hc
    · cases sg <;> simp [byts, sgn] at hc
      subst hc; decide
    · rcases List.mem_append.1 hc with hc | hc
      · exact hd a (by omega) c hc
      · rcases List.mem_cons.1 hc with rfl | hc
        · decide
        · unfold numL at hc
          split at hc
          · rcases List.mem_cons.1 (show c ∈ 45 :: byts (dgs q.natAbs) from hc) with rfl | hc
            · decide
            · exact hd _ (by omega) c hc
          · exact hd _ (by omega) c hc
theorem txD_K : TxK TxD where
  val h k := isTxt_unique h k
  txt := by
    rintro p q x ⟨hx, fx, xs, tx, e1⟩ ⟨hy, fy, ys, ty, e2⟩
    have e := txt_unique tx ty
    subst e
    have h := e1.trans e2.symm
    have h2 : p.toArray = q.toArray := congrArg ByteArray.data h
    have h3 := congrArg Array.toList h2
    simpa using h3
  sp := by
    rintro p x ⟨hx, fx, xs, tx, e⟩ hm
    have hp : p = byts xs := by rw [← byts_str, ← e]
    rw [hp] at hm
    have := txt_bytes tx _ hm
    revert this; decide
  nl := by
    rintro p x ⟨hx, fx, xs, tx, e⟩ hm
    have hp : p = byts xs := by rw [← byts_str, ← e]
    rw [hp] at hm
    have := txt_bytes tx _ hm
    revert this; decide
theorem txS_K : TxK TxS where
  val := by
    rintro p r r' ⟨hr, hsm, ht⟩ ⟨hr', hsm', ht'⟩
    have e := isTxt_unique ht ht'
    rw [← (nar_back hr hsm).1 default, ← (nar_back hr' hsm').1 default, e]
  txt h k := txD_K.txt h.2.2 k.2.2
  sp h := txD_K.sp h.2.2
  nl h := txD_K.nl h.2.2

/-- a line of a word and numbers -/
def LineT (T : List UInt8 → Nat → Prop) (word l : List UInt8) (xs : List Nat) : Prop := ∃ ts, spl 32 l = word :: ts ∧ All2 T ts xs
section
variable {T : List UInt8 → Nat → Prop} {word l l' : List UInt8} {xs ys : List Nat}
theorem LineT.val (K : TxK T) (h : LineT T word l xs) (k : LineT T word l ys) : xs = ys := by
  obtain ⟨ts, e1, a1⟩ := h
  obtain ⟨ts', e2, a2⟩ := k
  rw [e1] at e2
  injection e2 with _ e2
  subst e2
  exact All2.right (R := T) (fun _ _ _ h k => K.val h k) a1 a2
theorem LineT.txt (K : TxK T) (h : LineT T word l xs) (k : LineT T word l' xs) : l = l' := by
  obtain ⟨ts, e1, a1⟩ := h
  obtain ⟨ts', e2, a2⟩ := k
  rw [spl_join e1, spl_join e2, All2.left (R := T) (fun _ _ _ h k => K.txt h k) a1 a2]
theorem LineT.nl (K : TxK T) (hw : 10 ∉ word) (h : LineT T word l xs) : 10 ∉ l := by
  obtain ⟨ts, e1, a1⟩ := h
  rw [spl_join e1]
  intro hm
  rcases List.mem_append.1 hm with hm | hm
  · exact hw hm
  · obtain ⟨q, hq, hm⟩ := List.mem_flatten.1 hm
    obtain ⟨t, ht, rfl⟩ := List.mem_map.1 hq
    obtain ⟨x, hx⟩ := a1.mem t ht
    rcases List.mem_cons.1 hm with h | hm
    · revert h; decide
    · exact K.nl hx hm
theorem LineT.of (K : TxK T) (hw : 32 ∉ word) {ts : List (List UInt8)} (h : All2 T ts xs) : LineT T word (word ++ (ts.map (32 :: ·)).flatten) xs :=
  ⟨ts, spl_line hw (fun t ht => by obtain ⟨x, hx⟩ := h.mem t ht; exact K.sp hx), h⟩
end

/-! ### lines -/
structure LnK {α : Type} (L : List UInt8 → α → Prop) : Prop where
  val : ∀ {p x y}, L p x → L p y → x = y
  nl : ∀ {p x}, L p x → 10 ∉ p
/-- a text of lines -/
def LinesT {α : Type} (L : List UInt8 → α → Prop) (ms : List α) (l : List UInt8) : Prop := ∃ ps, All2 L ps ms ∧ l = glueC 10 ps
/-- what is read of a text, and its rest -/
def ReadT {α : Type} (L : List UInt8 → α → Prop) (most : Nat) (l : List UInt8) (ms : List α) (r : List UInt8) : Prop :=
  ∃ ps, All2 L ps ms ∧ l = glueC 10 ps ++ r ∧ ms.length ≤ most ∧ (ms.length = most ∨ 10 ∉ r ∨ ∃ p q, r = p ++ 10 :: q ∧ 10 ∉ p ∧ ∀ m, ¬ L p m)
section
variable {α : Type} {L : List UInt8 → α → Prop} {ms ns : List α} {l r : List UInt8}
theorem All2.clean (K : LnK L) {ps : List (List UInt8)} (h : All2 L ps ms) : ∀ p ∈ ps, 10 ∉ p := fun p hp => by
  obtain ⟨m, hm⟩ := h.mem p hp
  exact K.nl hm
theorem LinesT.spl (K : LnK L) (h : LinesT L ms l) : ∃ ps, All2 L ps ms ∧ spl 10 l = ps ++ [[]] := by
  obtain ⟨ps, h, rfl⟩ := h
  refine ⟨ps, h, ?_⟩
  have := spl_glue (l := []) (h.clean K)
  rw [List.append_nil] at this
  rw [this]; rfl
theorem LinesT.val (K : LnK L) (h : LinesT L ms l) (k : LinesT L ns l) : ms = ns := by
  obtain ⟨ps, h1, e1⟩ := h.spl K
  obtain ⟨qs, h2, e2⟩ := k.spl K
  have e := List.append_cancel_right (e1.symm.trans e2)
  subst e
  exact All2.right (R := L) (fun _ _ _ h k => K.val h k) h1 h2
theorem ReadT.done {most : Nat} (h : ReadT L most l ms []) : LinesT L ms l := by
  obtain ⟨ps, h1, e, -, -⟩ := h
  exact ⟨ps, h1, by rw [e, List.append_nil]⟩
/-- a text of lines is read to its end -/
theorem ReadT.rest (K : LnK L) {most : Nat} (h : ReadT L most l ms r) (k : LinesT L ns l) (hn : ns.length ≤ most) : r = [] := by
  obtain ⟨ps, h1, e, hl, hstop⟩ := h
  obtain ⟨qs, h2, e2⟩ := k.spl K
  have e1 : Go.Proofs.YtnmjkjjmigiabaaGreatDoor.spl 10 l = ps ++ Go.Proofs.YtnmjkjjmigiabaaGreatDoor.spl 10 r := by rw [e]; exact spl_glue (h1.clean K)
  rw [e1] at e2
  have none : 10 ∉ r → r = [] := fun hr => by
    rw [spl_none hr] at e2
    have := (List.append_inj' e2 rfl).2
    simpa using this
  rcases hstop with hs | hs | ⟨p, q, rfl, hp, hno⟩
  · apply none
    have hlen := congrArg List.length e2
    simp at hlen
    have := h1.len
    have := h2.len
    intro hm
    obtain ⟨p, q, rfl, hp⟩ := List.eq_append_cons_of_mem hm
    rw [spl_cut hp] at hlen
    have := List.length_pos_iff.2 (spl_ne 10 q)
    simp at hlen
    omega
  · exact none hs
  · exfalso
    rw [spl_cut hp] at e2
    have hmem : p ∈ qs := by
      have hq := spl_ne 10 q
      obtain ⟨x, t, hx⟩ : ∃ t x, Go.Proofs.YtnmjkjjmigiabaaGreatDoor.spl 10 q = t ++ [x] := ⟨_, _, (List.dropLast_concat_getLast hq).symm⟩
      rw [hx, show ps ++ p :: (x ++ [t]) = (ps ++ p :: x) ++ [t] from by simp] at e2
      have := (List.append_inj' e2 rfl).1
      rw [← this]
      simp
    obtain ⟨m, hm⟩ := h2.mem p hmem
    exact hno m hm
end

/-! ### modes -/
def wMode : List UInt8 := [109, 111, 100, 101]
def LineM (p : List UInt8) (m : M4) : Prop := LineT TxS wMode p [m.pr, m.pi, m.gr, m.gi]
theorem lineM_K : LnK LineM where
  val := by
    rintro p ⟨a, b, c, d⟩ ⟨a', b', c', d'⟩ h k
    have e := LineT.val txS_K h k
    simp at e
    obtain ⟨rfl, rfl, rfl, rfl⟩ := e
    rfl
  nl h := LineT.nl txS_K (by decide) h
/-- a text of a valid body -/
def GoodB (l : List UInt8) (ms : List M4) : Prop := bodyB ms = true ∧ LinesT LineM ms l

end Go.Proofs.YtnmjkjjmigiabaaGreatDoor

/- strings.Join and (*strings.Builder).WriteString: the shelf's contracts laid at this program (the tool lays Join's, not WriteString's).
   Conditions: those that each statement names. -/
namespace Go.Proofs.YtnmjkjjmigiabaaGreatDoor
set_option linter.unusedSimpArgs false
set_option linter.unusedVariables false
open Go Go.RowKit

def joinRen : Go.Shelf.Ren := ⟨fun | 156 => 133 | 165 => 186 | 166 => 63 | 169 => 65 | 240 => 132 | 241 => 211 | 276 => 185 | 277 => 226 | n => n, fun | 31 => 119 | 9 => 9 | 3 => 3 | 4 => 4 | 0 => 0 | 20 => Tryz.lays165_ren.t 20 | 72 => 98 | 76 => 101 | 70 => 96 | 37 => 22 | 75 => 100 | 127 => 167 | 164 => 208 | 5 => 5 | 80 => 104 | n => n, fun | n => n⟩
theorem joinLays : Go.Proofs.Lays.n156 Tryz.prog joinRen := {
  mixed := by kernel_rfl
  f156 := Tryz.func133.trans (congrArg some (by kernel_rfl))
  f165 := Tryz.func186.trans (congrArg some (by kernel_rfl))
  f166 := Tryz.func63.trans (congrArg some (by kernel_rfl))
  f169 := Tryz.func65.trans (congrArg some (by kernel_rfl))
  f240 := Tryz.func132.trans (congrArg some (by kernel_rfl))
  f241 := Tryz.func211.trans (congrArg some (by kernel_rfl))
  f276 := Tryz.func185.trans (congrArg some (by kernel_rfl))
  f277 := Tryz.func226.trans (congrArg some (by kernel_rfl))
  t0 := Tryz.underlying0
  a0 := Tryz.isAgg0
  z0 := Tryz.sizeOf0
  v0 := Tryz.zeroValue0
  t3 := Tryz.underlying3
  a3 := Tryz.isAgg3
  z3 := Tryz.sizeOf3
  v3 := Tryz.zeroValue3
  t4 := Tryz.underlying4
  a4 := Tryz.isAgg4
  z4 := Tryz.sizeOf4
  v4 := Tryz.zeroValue4
  t9 := Tryz.underlying9
  a9 := Tryz.isAgg9
  z9 := Tryz.sizeOf9
  v9 := Tryz.zeroValue9
  t20 := Tryz.lays165.t20
  a20 := Tryz.lays165.a20
  z20 := Tryz.lays165.z20
  v20 := Tryz.lays165.v20
  t31 := Tryz.underlying119
  a31 := Tryz.isAgg119
  z31 := Tryz.sizeOf119
  v31 := Tryz.zeroValue119
  t37 := Tryz.underlying22
  a37 := Tryz.isAgg22
  z37 := Tryz.sizeOf22
  v37 := Tryz.zeroValue22
  t70 := Tryz.underlying96
  a70 := Tryz.isAgg96
  z70 := Tryz.sizeOf96
  v70 := Tryz.zeroValue96
  t72 := Tryz.underlying98
  a72 := Tryz.isAgg98
  z72 := Tryz.sizeOf98
  v72 := Tryz.zeroValue98
  t75 := Tryz.underlying100
  a75 := Tryz.isAgg100
  z75 := Tryz.sizeOf100
  v75 := Tryz.zeroValue100
  t76 := Tryz.underlying101
  a76 := Tryz.isAgg101
  z76 := Tryz.sizeOf101
  v76 := Tryz.zeroValue101
  t127 := Tryz.underlying167
  a127 := Tryz.isAgg167
  z127 := Tryz.sizeOf167
  v127 := Tryz.zeroValue167
  t164 := Tryz.underlying208
  a164 := Tryz.isAgg208
  z164 := Tryz.sizeOf208
  v164 := Tryz.zeroValue208 }
theorem joinExtra : Builder.Extra Tryz.prog joinRen := {
  sizeBuilder := by kernel_rfl
  liesBuilder := by kernel_rfl
  t5 := Tryz.underlying5
  a5 := Tryz.isAgg5
  z5 := Tryz.sizeOf5
  v5 := Tryz.zeroValue5
  infoByte := by kernel_rfl
  cellsByte := by kernel_rfl
  sizeByte := by kernel_rfl
  neB5 := by decide }

theorem writeString (B b : Nat) (bs : List Value) (s : ByteArray) (w : World) (h : Lib.IsBuilder 98 5 B b bs w) (hlen : bs.length + s.size ≤ 140737488355328) (hBw : B ≤ w.heap.size) :
    Calls Tryz.prog 63 #[.pointer (some ⟨b, 0, none⟩), .string s] w fun e w' => e = .returned (.tuple #[.int .i64 s.size, .nilIface]) ∧ (Lib.BuilderAt 98 5 B b (.pointer (some ⟨b, 0, none⟩)) (bs ++ Lib.strCells s) w' ∧ Below B w w') :=
  Any.Builder_WriteString { joinLays with } joinExtra B b bs s w h hlen hBw
theorem builderString (B b : Nat) (l : List UInt8) (w : World) (h : Lib.IsBuilder 98 5 B b (Lib.byteCells l) w) (hBw : B ≤ w.heap.size) :
    Calls Tryz.prog 65 #[.pointer (some ⟨b, 0, none⟩)] w fun e w' => e = .returned (.string ⟨l.toArray⟩) ∧ Below B w w' :=
  Tryz.Builder_String_any B b l w h hBw
theorem joinStrings (bk o c : Nat) (xs : List ByteArray) (sep : ByteArray) (w : World) (hcells : ∀ (j : Nat) x, xs[j]? = some x → w.cell? ⟨bk, o + j, none⟩ = some (.string x)) (hbk : bk < w.heap.size) (hN : xs.length ≤ 140737488355328) (hcap : xs.length ≤ c) (hlen : (Lib.join (xs.map (·.data.toList)) sep.data.toList).length ≤ 140737488355328) :
    Calls Tryz.prog 133 #[.slice (some ⟨bk, o, none⟩) xs.length c, .string sep] w fun e w' => e = .returned (.string ⟨(Lib.join (xs.map (·.data.toList)) sep.data.toList).toArray⟩) ∧ Below w.heap.size w w' :=
  Any.strings_Join joinLays joinExtra bk o c xs sep w hcells hbk hN hcap hlen
theorem writeStringF (B b : Nat) (bs : List Value) (s : ByteArray) (w : World) (h : Lib.IsBuilderF 98 5 B b bs w) (hlen : bs.length + s.size ≤ 140737488355328) (hBw : B ≤ w.heap.size) :
    Calls Tryz.prog 63 #[.pointer (some ⟨b, 0, none⟩), .string s] w fun e w' => e = .returned (.tuple #[.int .i64 s.size, .nilIface]) ∧ (Lib.BuilderAtF 98 5 B b (.pointer (some ⟨b, 0, none⟩)) (bs ++ Lib.strCells s) w' ∧ Below B w w' ∧ Lib.OthersKept 5 (some b) w w') :=
  Any.Builder_WriteString_k { joinLays with } joinExtra B b bs s w h hlen hBw
theorem builderStringF (B b : Nat) (l : List UInt8) (w : World) (h : Lib.IsBuilderF 98 5 B b (Lib.byteCells l) w) (hBw : B ≤ w.heap.size) :
    Calls Tryz.prog 65 #[.pointer (some ⟨b, 0, none⟩)] w fun e w' => e = .returned (.string ⟨l.toArray⟩) ∧ (Lib.IsBuilderF 98 5 B b (Lib.byteCells l) w' ∧ Below B w w') :=
  Tryz.Builder_String_any_f B b l w h hBw
end Go.Proofs.YtnmjkjjmigiabaaGreatDoor

/- impl.readNumbers: a line of a word and numbers of single precision.
   Conditions: those that each statement names. -/
namespace Go.Proofs.YtnmjkjjmigiabaaGreatDoor
set_option linter.unusedSimpArgs false
set_option linter.unusedVariables false
open Go Go.RowKit

/-- numbers read so far, then zeros -/
def parS (xs : List Nat) (n : Nat) : List Nat := xs ++ List.replicate (n - xs.length) 0
theorem parS_nil (n : Nat) : parS [] n = List.replicate n 0 := by simp [parS]
theorem parS_full {xs : List Nat} {n : Nat} (h : xs.length = n) : parS xs n = xs := by subst h; simp [parS]
theorem parS_set {xs : List Nat} {n : Nat} (h : xs.length < n) (r : Nat) : (cellsS (parS xs n)).set xs.length (.float .f32 r) = cellsS (parS (xs ++ [r]) n) := by
  unfold parS
  rw [List.length_append, List.length_singleton, show n - xs.length = (n - (xs.length + 1)) + 1 from by omega, List.replicate_succ]
  simp only [cellsS, List.map_append, List.map_cons, List.map_nil, List.append_assoc, List.singleton_append]
  rw [List.set_append_right _ _ (by simp)]
  simp
theorem parS_cell {xs : List Nat} {n : Nat} (h : xs.length < n) : (cellsS (parS xs n))[xs.length]? = some (.float .f32 0) := by
  unfold parS cellsS
  rw [List.getElem?_map, List.getElem?_append_right (by omega)]
  simp [List.getElem?_replicate]
  omega

/-- the pieces of strings.SplitN at one byte -/
theorem splitN_ok (s : ByteArray) (n : Nat) (hn : 1 ≤ n) (hn2 : n ≤ 1048576) (hs : s.size ≤ 1048576) (w : World) (hL : LibW w) :
    Calls Tryz.prog 134 #[.string s, .string ⟨#[32]⟩, .int .i64 (n : Int)] w fun e w' =>
      ∃ (ps : List (List UInt8)) (cap : Nat), e = .returned (.slice (some ⟨w.heap.size, 0, none⟩) ps.length cap) ∧ ps.length = min (spl 32 s.data.toList).length n ∧ ((spl 32 s.data.toList).length ≤ n → ps = spl 32 s.data.toList) ∧
        w'.ownsRow w.heap.size 9 1 (.slice (some ⟨w.heap.size, 0, none⟩) ps.length cap) ps.length (cellsT ps) ∧ Nw w w' := by
  obtain ⟨m, hm⟩ := hL.2.2.2.2
  refine (Tryz.strings_SplitN s ⟨#[32]⟩ n m w (by omega) hm (by decide) hn (by omega)).mono ?_
  rintro e w' ⟨rfl, rfl⟩
  have hl : s.data.toList.length = s.size := Array.length_toList
  obtain ⟨K, hK⟩ : ∃ K, K = min n (s.size + 1) - 1 := ⟨_, rfl⟩
  have hN : min n (s.size + 1) = K + 1 := by omega
  rw [hN, Nat.add_sub_cancel]
  have hd := Lib.splitB_data (⟨#[32]⟩ : ByteArray) 0 K s
  have hq := splitK_spl 32 K s.data.toList
  rw [show (⟨#[32]⟩ : ByteArray).data.toList = [32] from rfl] at hd
  have hsp := spl_le 32 s.data.toList
  refine ⟨(Lib.splitB ⟨#[32]⟩ 0 K s).map (·.data.toList), K + 1, by rw [List.length_map], ?_, ?_, ?_, (Nw.refl w).alloc _⟩
  · rw [hd, hq.1]; omega
  · intro h
    rw [hd]
    exact hq.2 (by omega)
  · have hlen := Lib.splitB_length_le (⟨#[32]⟩ : ByteArray) 0 K s
    rw [List.length_map]
    refine ⟨by simp [cellsT], .inr ⟨w.heap.size, K + 1, _, rfl, Nat.le_refl _, heap_alloc_new w _, hlen, by unfold maxLen; omega, ?_, ?_⟩⟩
    · rw [Lib.cellsOf_size hlen]; omega
    · unfold Lib.cellsOf cellsT
      rw [Nat.mul_one, List.toList_toArray, List.take_append_of_le_length (by simp), List.take_of_length_le (by simp), List.map_map]
      rfl

def NumsI (word : List UInt8) (ts : List (List UInt8)) (n : Nat) (w0 : World) (B g : Nat) (i : Value) (wr : World) : Prop :=
  ∃ xs : List Nat, xs.length ≤ n ∧ i = .int .i64 (xs.length : Int) ∧ All2 TxS (ts.take xs.length) xs ∧ wr.ownsRow B 25 1 (.slice (some ⟨g, 0, none⟩) n n) n (cellsS (parS xs n)) ∧ Nw w0 wr
def NumsP (word l : List UInt8) (n : Nat) (w : World) (e : Ending) (w' : World) : Prop :=
  Nw w w' ∧ ((∃ xs v, xs.length = n ∧ LineT TxS word l xs ∧ e = .returned (.tuple #[v, .bool true]) ∧ w'.ownsRow w.heap.size 25 1 v n (cellsS xs)) ∨
    ((∀ xs, xs.length = n → ¬ LineT TxS word l xs) ∧ e = .returned (.tuple #[.slice none 0 0, .bool false])))

theorem list_str (s : ByteArray) : (⟨s.data.toList.toArray⟩ : ByteArray) = s := rfl
set_option maxHeartbeats 3200000 in
set_option maxRecDepth 100000 in
theorem readNumbersS (word : List UInt8) (hw : 32 ∉ word) (s : ByteArray) (hs : s.size ≤ 1048576) (n : Nat) (hn : n ≤ 16) (w : World) (hL : LibW w) :
    Calls Tryz.prog 67 #[.string s, .string ⟨word.toArray⟩, .int .i64 (n : Int), .func (.func 12) #[] #[]] w (NumsP word s.data.toList n w) := by
  obtain ⟨f0, hf0, hfz0, hfz1, hfz2⟩ := info_parts info_f32
  have C := Lib.hid (splitN_ok s (n + 2) (by omega) (by omega) hs)
  rw [show ((n + 2 : Nat) : Int) = (n : Int) + 2 from by omega] at C
  have L := Lib.hid hL
  have Hw := Lib.hid hw
  clear hL hw
  go_enter Tryz.func67, Tryz.ntmps67
  go_wp2_with fail
  refine (C.out _ L.out).mono ?_
  rintro e w1 ⟨ps, cap, rfl, hlen, hps, own, n1⟩
  have Ow := Lib.hid own
  have N1 := Lib.hid n1
  have HP := Lib.hid (And.intro hlen hps)
  clear own n1 hlen hps
  by_cases hln : ps.length = n + 1
  · obtain ⟨p0, ts, rfl⟩ : ∃ p0 ts, ps = p0 :: ts := by
      cases ps with
      | nil => simp at hln
      | cons p ts => exact ⟨p, ts, rfl⟩
    have hts : ts.length = n := by simpa using hln
    have hsp : spl 32 s.data.toList = p0 :: ts := by
      have h1 := HP.out.1
      have h2 := HP.out.2
      rw [hln] at h1
      exact (h2 (by omega)).symm
    have e0 := Ow.out.cellAt 0 (by omega)
    rw [show (cellsT (p0 :: ts))[0]? = some (.string ⟨p0.toArray⟩) from rfl] at e0
    have Sp := Lib.hid hsp
    have Ht := Lib.hid hts
    clear hsp hts
    rw [hln] at Ow ⊢
    clear hln
    by_cases hw0 : p0 = word
    · subst hw0
      go_wp2_with (first
        | (at_make; refine wpList_make_full _ rfl _ _ 35 rfl w1.heap.size 25 f0 (.float .f32 0) 1 Tryz.underlying35 hf0 hfz0 hfz1 _ _ _ _ n rfl rfl rfl rfl (by rw [hfz2]; omega) (by unfold maxLen; omega) (Nat.le_refl _) ?_))
      intro w3 hown3 hgrow3
      have hn3 : Nw w1 w3 := hgrow3
      have O3 := Lib.hid (show w3.ownsRow w1.heap.size 25 1 (.slice (some ⟨w1.heap.size, 0, none⟩) n n) n (cellsS (parS [] n)) from by
        rw [toList_madeCells_one] at hown3
        rw [parS_nil]
        simpa [cellsS] using hown3)
      have N3 := Lib.hid hn3
      have Ow3 := Lib.hid (own_nw Ow.out hn3)
      have hws := Lib.hid (show w.heap.size ≤ w1.heap.size from N1.out.size)
      clear hown3 hgrow3 hn3 e0
      go_wp2_with fail
      go_loopw [35] (fun i wr => NumsI p0 ts n w1 w1.heap.size w1.heap.size i wr) (fun i _ => n - (intOf i).toNat)
      case atStart => exact ⟨[], by simp, rfl, trivial, O3.out, N3.out⟩
      case round =>
        obtain ⟨xs, hk, rfl, hal, how, hN⟩ := hrel
        have Al := Lib.hid hal
        have Or := Lib.hid how
        have Nr := Lib.hid hN
        clear hal how hN
        by_cases hlt : xs.length < n
        · obtain ⟨t, htk⟩ : ∃ t, ts[xs.length]? = some t := ⟨ts[xs.length]'(by rw [Ht.out]; exact hlt), List.getElem?_eq_getElem _⟩
          have hb : w.heap.size < w1.heap.size := (Ow.out.lt w.heap.size rfl).2
          have e0 := (own_nw Ow.out Nr.out).cellAt (xs.length + 1) (by omega)
          rw [show (cellsT (p0 :: ts))[xs.length + 1]? = some (.string ⟨t.toArray⟩) from by unfold cellsT; rw [List.getElem?_map, List.getElem?_cons_succ, htk]; rfl] at e0
          have htm : t ∈ spl 32 s.data.toList := by rw [Sp.out]; exact List.mem_cons_of_mem _ (List.mem_of_getElem? htk)
          have hsz : (⟨t.toArray⟩ : ByteArray).size ≤ 1048576 := by
            have h1 := spl_len htm
            have h2 : s.data.toList.length = s.size := Array.length_toList
            have h3 : (⟨t.toArray⟩ : ByteArray).size = t.length := List.size_toArray
            omega
          have P := Lib.hid (implSingle ⟨t.toArray⟩ hsz wr (L.out.nw (N1.out.trans Nr.out)))
          have Tk := Lib.hid htk
          clear htk htm hsz
          go_wp2_with fail
          refine P.out.mono ?_
          rintro e w5 ⟨n5, ⟨r, hr, hsm, ht, rfl⟩ | ⟨hno, rfl⟩⟩
          · have N5 := Lib.hid (Nr.out.trans n5)
            have O5 := Lib.hid (own_nw Or.out n5)
            have K := Lib.hid (show TxS t r from ⟨hr, hsm, ht⟩)
            clear n5 hr hsm ht e0
            have e1 := O5.out.cellAt xs.length (by omega)
            rw [parS_cell hlt] at e1
            have e2 := O5.out.frozenAt xs.length
            have hset := O5.out.stored xs.length (.float .f32 r)
            rw [parS_set hlt] at hset
            have F := Lib.hid hset.1
            have N6 := Lib.hid (N5.out.set (p := ⟨w1.heap.size, xs.length, none⟩) (by show w1.heap.size ≤ w1.heap.size; omega) (.float .f32 r))
            clear hset
            go_wp2_with fail
            go_roundw
            case rel =>
              refine ⟨xs ++ [r], by simp; omega, by rw [List.length_append, List.length_singleton, show ((xs.length + 1 : Nat) : Int) = (xs.length : Int) + 1 from by omega], ?_, F.out, N6.out⟩
              rw [List.length_append, List.length_singleton, List.take_add_one, Tk.out]
              exact Al.out.snoc K.out
            case measure => simp only [intOf]; omega
          · have N5 := Lib.hid (Nr.out.trans n5)
            have B := Lib.hid hno
            clear n5 hno e0
            go_wp2_with fail
            go_ret2
            refine ⟨N1.out.trans N5.out, .inr ⟨fun ys _ h => ?_, rfl⟩⟩
            obtain ⟨us, e, a⟩ := h
            rw [Sp.out] at e
            injection e with _ e
            subst e
            obtain ⟨y, -, hy⟩ := a.get Tk.out
            exact B.out y hy.1 hy.2.1 hy.2.2
        · have hxn : xs.length = n := by omega
          go_wp2_with fail
          go_ret2
          refine ⟨N1.out.trans Nr.out, .inl ⟨xs, _, hxn, ⟨ts, Sp.out, ?_⟩, rfl, ?_⟩⟩
          · have h := Al.out
            rw [List.take_of_length_le (by rw [Ht.out]; omega)] at h
            exact h
          · have h := Or.out
            rw [parS_full hxn] at h
            exact own_base h hws.out
    · have hb0 : (p0 == word) = false := by simpa using hw0
      go_wp2_with fail
      go_ret2
      refine ⟨N1.out, .inr ⟨fun xs _ h => ?_, rfl⟩⟩
      obtain ⟨us, e, -⟩ := h
      rw [Sp.out] at e
      injection e with e _
      exact hw0 e
  · go_wp2_with fail
    go_ret2
    refine ⟨N1.out, .inr ⟨fun xs hx h => ?_, rfl⟩⟩
    obtain ⟨us, e, a⟩ := h
    have h1 := HP.out.1
    have h2 := HP.out.2
    have hus := a.len
    rw [e] at h1 h2
    simp at h1 h2
    rw [h2 (by omega)] at hln
    simp at hln
    omega
end Go.Proofs.YtnmjkjjmigiabaaGreatDoor

/- A range over a string of any bytes: one step.
   Conditions: those that each statement names. -/
namespace Go.Proofs.YtnmjkjjmigiabaaGreatDoor
set_option linter.unusedSimpArgs false
set_option linter.unusedVariables false
open Go

theorem next_any {P : Program} (w : World) (s : ByteArray) (pos : Nat) (ty : TypeId) (h : pos < s.size) :
    (Instr.next (.pointer (some ⟨w.heap.size, 0, none⟩)) true ty).run P (w.iter s pos) =
      .ok (.tuple #[.bool true, .int .i64 pos, .int .i32 (Utf8.decode s pos).1]) (w.iter s (pos + (Utf8.decode s pos).2)) := by
  simp only [Instr.next, getObj, setObj, Sem.run_bind, Sem.run, World.iter_heap, Result.andThen, h, if_true, World.iter_set]
  simp [goInt, Sem.run, World.iter_heap, World.iter_set]

/-- a rune is a newline only where its byte is one, and no byte behind its first is -/
theorem dec_nl (s : ByteArray) (pos : Nat) (h : pos < s.size) :
    ((Utf8.decode s pos).1 = 10 ↔ (s.get! pos).toNat = 10) ∧ 1 ≤ (Utf8.decode s pos).2 ∧ ∀ k, k < (Utf8.decode s pos).2 → pos + k < s.size ∧ (0 < k → (s.get! (pos + k)).toNat ≠ 10) := by
  have r : Utf8.runeError ≠ 10 := by decide
  have one : ∀ k, k < 1 → pos + k < s.size ∧ (0 < k → (s.get! (pos + k)).toNat ≠ 10) := fun k hk => ⟨by omega, fun h0 => by omega⟩
  have ct : ∀ k, (decide (pos + k < s.size) && ((s.get! (pos + k)).toNat / 64 == 2)) = true → pos + k < s.size ∧ (s.get! (pos + k)).toNat ≠ 10 := fun k hk => by
    simp only [Bool.and_eq_true, decide_eq_true_eq, beq_iff_eq] at hk
    exact ⟨hk.1, by omega⟩
  unfold Utf8.decode
  simp only [Nat.add_zero]
  split
  · exact ⟨Iff.rfl, Nat.le_refl _, one⟩
  · rename_i hb
    have nb : (s.get! pos).toNat ≠ 10 := by omega
    have er : (Utf8.runeError = 10 ↔ (s.get! pos).toNat = 10) := ⟨fun h => absurd h r, fun h => absurd h nb⟩
    split
    · rename_i hc
      simp only [Bool.and_eq_true] at hc
      have c1 := ct 1 (by simpa using hc.2)
      split
      · exact ⟨⟨fun h => by omega, fun h => absurd h nb⟩, by omega, fun k hk => by
          match k, hk with
          | 0, _ => exact ⟨by omega, fun h0 => by omega⟩
          | 1, _ => exact ⟨c1.1, fun _ => c1.2⟩⟩
      · exact ⟨er, Nat.le_refl _, one⟩
    · split
      · rename_i hc
        simp only [Bool.and_eq_true] at hc
        have c1 := ct 1 (by simpa using hc.1.2)
        have c2 := ct 2 (by simpa using hc.2)
        split
        · rename_i hv
          simp only [Bool.and_eq_true, decide_eq_true_eq] at hv
          exact ⟨⟨fun h => by omega, fun h => absurd h nb⟩, by omega, fun k hk => by
            match k, hk with
            | 0, _ => exact ⟨by omega, fun h0 => by omega⟩
            | 1, _ => exact ⟨c1.1, fun _ => c1.2⟩
            | 2, _ => exact ⟨c2.1, fun _ => c2.2⟩⟩
        · exact ⟨er, Nat.le_refl _, one⟩
      · split
        · rename_i hc
          simp only [Bool.and_eq_true] at hc
          have c1 := ct 1 (by simpa using hc.1.1.2)
          have c2 := ct 2 (by simpa using hc.1.2)
          have c3 := ct 3 (by simpa using hc.2)
          split
          · rename_i hv
            simp only [Bool.and_eq_true, decide_eq_true_eq] at hv
            exact ⟨⟨fun h => by omega, fun h => absurd h nb⟩, by omega, fun k hk => by
              match k, hk with
              | 0, _ => exact ⟨by omega, fun h0 => by omega⟩
              | 1, _ => exact ⟨c1.1, fun _ => c1.2⟩
              | 2, _ => exact ⟨c2.1, fun _ => c2.2⟩
              | 3, _ => exact ⟨c3.1, fun _ => c3.2⟩⟩
          · exact ⟨er, Nat.le_refl _, one⟩
        · exact ⟨er, Nat.le_refl _, one⟩
end Go.Proofs.YtnmjkjjmigiabaaGreatDoor

/- impl.cutLine: a text cut at its first newline.
   Conditions: those that each statement names. -/
namespace Go.Proofs.YtnmjkjjmigiabaaGreatDoor
set_option linter.unusedSimpArgs false
set_option linter.unusedVariables false
open Go Go.RowKit

def itPos (B : Nat) (wr : World) : Nat := match wr.heap[B]? with | some (.stringIter _ p) => p | _ => 0
theorem itPos_iter (w : World) (s : ByteArray) (pos : Nat) : itPos w.heap.size (w.iter s pos) = pos := by unfold itPos; rw [World.iter_heap]
def CutI (s : ByteArray) (w wr : World) : Prop := ∃ pos, wr = w.iter s pos ∧ pos ≤ s.size ∧ (10 : UInt8) ∉ s.data.toList.take pos
/-- the first line and the rest, or none -/
def CutP (l : List UInt8) (w : World) (e : Ending) (w' : World) : Prop :=
  Nw w w' ∧ ((∃ p r, l = p ++ 10 :: r ∧ (10 : UInt8) ∉ p ∧ e = .returned (.tuple #[.string ⟨p.toArray⟩, .string ⟨r.toArray⟩, .bool true])) ∨ ((10 : UInt8) ∉ l ∧ e = .returned (.tuple #[.string ⟨#[]⟩, .string ⟨#[]⟩, .bool false])))

set_option maxHeartbeats 3200000 in
set_option maxRecDepth 100000 in
theorem cutLine_ok (s : ByteArray) (hs : s.size ≤ 1048576) (w : World) :
    Calls Tryz.prog 94 #[.string s] w (CutP s.data.toList w) := by
  have hl : s.data.toList.length = s.size := Array.length_toList
  go_enter Tryz.func94, Tryz.ntmps94
  go_wp2_with fail
  go_loopw [5] (fun i wr => CutI s w wr) (fun _ wr => s.size - itPos w.heap.size wr)
  case atStart => exact ⟨0, rfl, Nat.zero_le _, by simp⟩
  case round =>
    obtain ⟨pos, rfl, hp, hno⟩ := hrel
    have Hno := Lib.hid hno
    clear hno
    by_cases hlt : pos < s.size
    · have hnx := fun ty => next_any (P := Tryz.prog) w s pos ty hlt
      obtain ⟨d1, d2, d3⟩ := dec_nl s pos hlt
      obtain ⟨rn, hrn⟩ : ∃ rn, rn = (Utf8.decode s pos).1 := ⟨_, rfl⟩
      obtain ⟨n, hn⟩ : ∃ n, n = (Utf8.decode s pos).2 := ⟨_, rfl⟩
      rw [← hrn, ← hn] at hnx
      rw [← hrn] at d1
      rw [← hn] at d2 d3
      have D := Lib.hid (And.intro d1 (And.intro d2 d3))
      clear d1 d2 d3 hrn hn
      by_cases h10 : rn = 10
      · have e10 : ((rn : Int) == 10) = true := by rw [h10]; rfl
        go_wp2_with fail
        have hb : s.data.toList[pos]'(by omega) = 10 := by
          have e := D.out.1.1 h10
          have e2 : s.get! pos = s.data.toList[pos]'(by omega) := by
            show s.data[pos]! = _
            rw [getElem!_pos s.data pos (by show pos < s.data.size; rw [← Array.length_toList]; omega)]
            rfl
          rw [← e2]
          exact UInt8.toNat_inj.1 e
        have hsp : s.data.toList = s.data.toList.take pos ++ 10 :: s.data.toList.drop (pos + 1) := by
          conv => lhs; rw [← List.take_append_drop pos s.data.toList, List.drop_eq_getElem_cons (by omega), hb]
        have x1 : s.extract 0 pos = ⟨(s.data.toList.take pos).toArray⟩ := by rw [ext_bytes]; rfl
        have x2 : s.extract (pos + 1) s.size = ⟨(s.data.toList.drop (pos + 1)).toArray⟩ := by rw [ext_bytes, ← hl, List.take_length]
        have X := Lib.hid (And.intro hsp (And.intro x1 x2))
        clear hb hsp x1 x2
        go_quiet (fail)
        go_wp2_with fail
        go_ret3
        exact ⟨((Nw.refl w).alloc _).draw _, .inl ⟨_, _, X.out.1, Hno.out, by rw [← X.out.2.1, ← X.out.2.2]; rfl⟩⟩
      · have e10 : ((rn : Int) == 10) = false := by simp; omega
        go_wp2_with fail
        go_roundw
        case rel =>
          refine ⟨pos + n, rfl, ?_, ?_⟩
          · have := (D.out.2.2 (n - 1) (by have := D.out.2.1; omega)).1
            have := D.out.2.1
            omega
          · intro hm
            obtain ⟨i, hi, he⟩ := List.mem_iff_getElem.1 hm
            rw [List.length_take] at hi
            rw [List.getElem_take] at he
            rcases Nat.lt_or_ge i pos with g | g
            · exact Hno.out (by rw [← he]; exact List.mem_iff_getElem.2 ⟨i, by rw [List.length_take]; omega, by rw [List.getElem_take]⟩)
            · have k := D.out.2.2 (i - pos) (by omega)
              have eb : s.get! (pos + (i - pos)) = s.data.toList[i]'(by omega) := by
                rw [show pos + (i - pos) = i by omega]
                show s.data[i]! = _
                rw [getElem!_pos s.data i (by have := hl; show i < s.data.size; rw [← Array.length_toList]; omega)]
                rfl
              rcases Nat.eq_or_lt_of_le g with g0 | g0
              · have : (s.get! pos).toNat = 10 := by
                  have e1 : s.get! pos = 10 := by rw [← he]; rw [← eb]; congr 1; omega
                  rw [e1]; rfl
                exact h10 (D.out.1.2 this)
              · exact k.2 (by omega) (by rw [eb, he]; rfl)
        case measure =>
          rw [itPos_iter, itPos_iter]
          have := D.out.2.1
          omega
    · have hnx := fun ty => run_next_end (P := Tryz.prog) w s pos ty hlt
      go_wp2_with fail
      go_ret3
      exact ⟨(Nw.refl w).alloc _, .inr ⟨by rw [show pos = s.data.toList.length by omega, List.take_length] at Hno; exact Hno.out, rfl⟩⟩
end Go.Proofs.YtnmjkjjmigiabaaGreatDoor

/- The model's text of a body: its modes' lines.
   Conditions: those that each statement names. -/
namespace Go.Proofs.YtnmjkjjmigiabaaGreatDoor
set_option linter.unusedSimpArgs false
set_option linter.unusedVariables false
open Go Go.RowKit

/-- the text of a finite double, as bytes -/
def TxDP (x : Nat) (w : World) (e : Ending) (w' : World) : Prop := ∃ t, e = .returned (.string ⟨t.toArray⟩) ∧ TxD t x ∧ t.length ≤ 60 ∧ Nw w w'
theorem specTxD (x : Nat) (hx : x < 18446744073709551616) (hf : fin .f64 x = true) (w : World) : Calls Tryz.prog 140 #[.float .f64 x] w (TxDP x w) := by
  refine (specText x hx w).mono ?_
  rintro e w' ⟨xs, rfl, ht, hn⟩
  exact ⟨byts xs, rfl, ⟨hx, hf, xs, ht, rfl⟩, by unfold byts; rw [List.length_map]; exact txt_str ht, hn⟩

/-- a line of a word and four doubles -/
def Ln4 (word : List UInt8) (a b c d : Nat) (w : World) (e : Ending) (w' : World) : Prop :=
  ∃ l, e = .returned (.string ⟨(l ++ [10]).toArray⟩) ∧ LineT TxD word l [a, b, c, d] ∧ l.length ≤ word.length + 244 ∧ Nw w w'
set_option maxRecDepth 100000 in
theorem l6Line_ok (word : List UInt8) (hw : 32 ∉ word) (hl : word.length ≤ 100) (a b c d : Nat) (ha : a < 18446744073709551616 ∧ fin .f64 a = true) (hb : b < 18446744073709551616 ∧ fin .f64 b = true) (hc : c < 18446744073709551616 ∧ fin .f64 c = true) (hd : d < 18446744073709551616 ∧ fin .f64 d = true) (w : World) :
    Calls Tryz.prog 77 #[.string ⟨word.toArray⟩, .complex .f64 a b, .complex .f64 c d] w (Ln4 word a b c d w) := by
  have T1 := Lib.hid (fun w => specTxD a ha.1 ha.2 w)
  have T2 := Lib.hid (fun w => specTxD b hb.1 hb.2 w)
  have T3 := Lib.hid (fun w => specTxD c hc.1 hc.2 w)
  have T4 := Lib.hid (fun w => specTxD d hd.1 hd.2 w)
  have Hw := Lib.hid hw
  clear ha hb hc hd hw
  go_enter Tryz.func77, Tryz.ntmps77
  go_wp2_with fail
  refine (T1.out _).mono ?_
  rintro e w1 ⟨t1, rfl, k1, g1, n1⟩
  have N1 := Lib.hid n1
  have K1 := Lib.hid k1
  clear n1 k1
  go_wp2_with fail
  refine (T2.out _).mono ?_
  rintro e w2 ⟨t2, rfl, k2, g2, n2⟩
  have N2 := Lib.hid (N1.out.trans n2)
  have K2 := Lib.hid k2
  clear n2 k2
  go_wp2_with fail
  refine (T3.out _).mono ?_
  rintro e w3 ⟨t3, rfl, k3, g3, n3⟩
  have N3 := Lib.hid (N2.out.trans n3)
  have K3 := Lib.hid k3
  clear n3 k3
  go_wp2_with fail
  refine (T4.out _).mono ?_
  rintro e w4 ⟨t4, rfl, k4, g4, n4⟩
  have N4 := Lib.hid (N3.out.trans n4)
  have K4 := Lib.hid k4
  clear n4 k4
  go_wp2_with fail
  go_ret
  refine ⟨word ++ [32] ++ t1 ++ [32] ++ t2 ++ [32] ++ t3 ++ [32] ++ t4, congrArg Ending.returned (congrArg Value.string (by apply ByteArray.ext; simp)), ?_, by simp; omega, N4.out⟩
  have h := LineT.of (ts := [t1, t2, t3, t4]) txD_K Hw.out (show All2 TxD [t1, t2, t3, t4] [a, b, c, d] from ⟨K1.out, K2.out, K3.out, K4.out, trivial⟩)
  have e : word ++ [32] ++ t1 ++ [32] ++ t2 ++ [32] ++ t3 ++ [32] ++ t4 = word ++ (([t1, t2, t3, t4] : List (List UInt8)).map (32 :: ·)).flatten := by simp
  rw [e]
  exact h

theorem all2_four {T : List UInt8 → Nat → Prop} {ts : List (List UInt8)} {a b c d : Nat} (h : All2 T ts [a, b, c, d]) : ∃ t1 t2 t3 t4, ts = [t1, t2, t3, t4] ∧ T t1 a ∧ T t2 b ∧ T t3 c ∧ T t4 d := by
  have hl := h.len
  rcases ts with _ | ⟨t1, _ | ⟨t2, _ | ⟨t3, _ | ⟨t4, _ | ⟨t5, ts⟩⟩⟩⟩⟩
  · simp at hl
  · simp at hl
  · simp at hl
  · simp at hl
  · exact ⟨t1, t2, t3, t4, rfl, h.1, h.2.1, h.2.2.1, h.2.2.2.1⟩
  · simp at hl
/-- a line of doubles that single precision has -/
theorem line_nar {word l : List UInt8} {m : M4} (hf : m.Fin) (hb : m.pr < 4294967296 ∧ m.pi < 4294967296 ∧ m.gr < 4294967296 ∧ m.gi < 4294967296) (h : LineT TxD word l [wid m.pr, wid m.pi, wid m.gr, wid m.gi]) : LineT TxS word l [m.pr, m.pi, m.gr, m.gi] := by
  obtain ⟨ts, e, a⟩ := h
  obtain ⟨t1, t2, t3, t4, rfl, a1, a2, a3, a4⟩ := all2_four a
  exact ⟨_, e, ⟨hb.1, hf.1, a1⟩, ⟨hb.2.1, hf.2.1, a2⟩, ⟨hb.2.2.1, hf.2.2.1, a3⟩, ⟨hb.2.2.2, hf.2.2.2, a4⟩, trivial⟩

def M4.bits (m : M4) : Prop := m.pr < 4294967296 ∧ m.pi < 4294967296 ∧ m.gr < 4294967296 ∧ m.gi < 4294967296
def TextI (ms : List M4) (n : Nat) (w : World) (o i : Value) (wr : World) : Prop :=
  ∃ (k : Nat) (l : List UInt8), k ≤ n ∧ i = .int .i64 (k : Int) ∧ o = .string ⟨l.toArray⟩ ∧ LinesT LineM (ms.take k) l ∧ l.length ≤ k * 300 ∧ Nw w wr
def TextP (ms : List M4) (w : World) (e : Ending) (w' : World) : Prop :=
  ∃ l, e = .returned (.string ⟨l.toArray⟩) ∧ LinesT LineM ms l ∧ l.length ≤ 5000 ∧ Nw w w'
theorem glue_snoc (c : UInt8) (ps : List (List UInt8)) (p : List UInt8) : glueC c (ps ++ [p]) = glueC c ps ++ (p ++ [c]) := by simp [glueC]
set_option maxRecDepth 100000 in
theorem l6Modes_ok (ms : List M4) (hf : ∀ m ∈ ms, m.Fin ∧ m.bits) (n bm : Nat) (v : Value) (hn : ms.length = n) (hn16 : n ≤ 16) (w : World) (hm : w.ownsRow bm 93 2 v n (cellsM ms)) :
    Calls Tryz.prog 75 #[v] w (TextP ms w) := by
  obtain ⟨va, vc, rfl⟩ := own_shape' hm
  have H := Lib.hid hm
  have Hf := Lib.hid hf
  have Hn := Lib.hid hn
  clear hm hf hn
  go_enter Tryz.func75, Tryz.ntmps75
  go_wp2_with fail
  go_loopw [3, 8] (fun o i wr => TextI ms n w o i wr) (fun _ i _ => n - (intOf i).toNat)
  case atStart => exact ⟨0, [], by omega, rfl, rfl, ⟨[], trivial, rfl⟩, by simp, Nw.refl _⟩
  case round =>
    obtain ⟨k, l, hk, rfl, rfl, hT, hl, hN⟩ := hrel
    have Nr := Lib.hid hN
    have T := Lib.hid hT
    clear hN hT
    by_cases hlt : k < n
    · obtain ⟨m, hmk⟩ : ∃ m, ms[k]? = some m := ⟨ms[k]'(by rw [Hn.out]; exact hlt), List.getElem?_eq_getElem _⟩
      obtain ⟨g, cap, hv, hcap, hmax, hgs, e1, e2⟩ := own_mode (own_nw H.out Nr.out) hmk Hn.out.symm
      cases hv
      unfold maxLen at hmax
      have Hm := Lib.hid (Hf.out m (List.mem_of_getElem? hmk))
      have Hk := Lib.hid hmk
      have u1 := fun w => fcv_up Hm.out.1.1 w
      have u2 := fun w => fcv_up Hm.out.1.2.1 w
      have u3 := fun w => fcv_up Hm.out.1.2.2.1 w
      have u4 := fun w => fcv_up Hm.out.1.2.2.2 w
      have v1 := fcd_up Hm.out.1.1
      have v2 := fcd_up Hm.out.1.2.1
      have v3 := fcd_up Hm.out.1.2.2.1
      have v4 := fcd_up Hm.out.1.2.2.2
      clear hmk
      have C := Lib.hid (fun w => l6Line_ok wMode (by decide) (by decide) (wid m.pr) (wid m.pi) (wid m.gr) (wid m.gi) ⟨wid_lt _, fin_wid Hm.out.1.1⟩ ⟨wid_lt _, fin_wid Hm.out.1.2.1⟩ ⟨wid_lt _, fin_wid Hm.out.1.2.2.1⟩ ⟨wid_lt _, fin_wid Hm.out.1.2.2.2⟩ w)
      go_wp2_with fail
      refine (C.out _).mono ?_
      rintro e w1 ⟨p, rfl, hp, hpl, n1⟩
      have N1 := Lib.hid n1
      have P := Lib.hid hp
      have hpl2 : p.length ≤ 248 := hpl
      clear n1 hp hpl
      go_wp2_with fail
      go_roundw
      case rel =>
        refine ⟨k + 1, l ++ (p ++ [10]), by omega, by rw [show ((k + 1 : Nat) : Int) = (k : Int) + 1 from by omega], rfl, ?_, by simp; omega, (Nr.out.alloc _).trans N1.out⟩
        obtain ⟨ps, h1, h2⟩ := T.out
        obtain ⟨hk', he⟩ := List.getElem?_eq_some_iff.1 Hk.out
        refine ⟨ps ++ [p], ?_, by rw [h2, glue_snoc]⟩
        rw [List.take_succ_eq_append_getElem hk', he]
        exact h1.snoc (line_nar Hm.out.1 Hm.out.2 P.out)
      case measure => simp only [intOf]; omega
    · obtain rfl : k = n := by omega
      go_wp2_with fail
      go_ret
      refine ⟨l, rfl, ?_, by omega, Nr.out⟩
      have h := T.out
      rw [List.take_of_length_le (by have := Hn.out; omega)] at h
      exact h

set_option maxRecDepth 100000 in
theorem specFormatBody_ok (ms : List M4) (hf : ∀ m ∈ ms, m.Fin ∧ m.bits) (n bm : Nat) (v : Value) (hn : ms.length = n) (hok : bodyB ms = true) (w : World) (hm : w.ownsRow bm 93 2 v n (cellsM ms)) :
    Calls Tryz.prog 81 #[.agg #[v]] w (TextP ms w) := by
  obtain ⟨va, vc, rfl⟩ := own_shape' hm
  have hn16 : n ≤ 16 := by have := ((bodyB_iff ms).1 hok).1; omega
  have H := Lib.hid (hm.alloc (.cells #[.slice va n vc] 38 (0, 0)))
  have N0 := Lib.hid ((Nw.refl w).alloc (.cells #[.slice va n vc] 38 (0, 0)))
  have Hf := Lib.hid hf
  have Hn := Lib.hid hn
  have Ho := Lib.hid hok
  have B := Lib.hid (Has1.new w 38 (.slice va n vc))
  clear hm hf hn hok
  go_enter Tryz.func81, Tryz.ntmps81
  go_wp2_with fail
  refine (specIsBody_fin ms n bm _ Hn.out (by omega) _ H.out).mono ?_
  rintro e w1 ⟨rfl, n1⟩
  rw [Ho.out]
  have N1 := Lib.hid (N0.out.trans n1)
  have H1 := Lib.hid (own_nw H.out n1)
  have B1 := Lib.hid (B.out.nw n1)
  clear n1
  obtain ⟨b0, b1, b2⟩ := B1.out
  go_wp2_with fail
  refine (l6Modes_ok ms Hf.out n bm _ Hn.out (by omega) _ H1.out).mono ?_
  rintro e w2 ⟨l, rfl, hT, hl, n2⟩
  have N2 := Lib.hid (N1.out.trans n2)
  have T := Lib.hid hT
  clear n2 hT
  go_wp2_with fail
  go_ret
  exact ⟨l, rfl, T.out, hl, N2.out⟩
end Go.Proofs.YtnmjkjjmigiabaaGreatDoor

/- impl.readMode, impl.readLines of modes, impl.ParseBody.
   Conditions: those that each statement names. -/
namespace Go.Proofs.YtnmjkjjmigiabaaGreatDoor
set_option linter.unusedSimpArgs false
set_option linter.unusedVariables false
open Go Go.RowKit

def RdMP (l : List UInt8) (w : World) (e : Ending) (w' : World) : Prop :=
  Nw w w' ∧ ((∃ m : M4, LineM l m ∧ e = .returned (.tuple #[.agg #[.complex .f32 m.pr m.pi, .complex .f32 m.gr m.gi], .bool true])) ∨ ((∀ m, ¬ LineM l m) ∧ e = .returned (.tuple #[.agg #[.complex .f32 0 0, .complex .f32 0 0], .bool false])))

theorem four {xs : List Nat} (h : xs.length = 4) : ∃ a b c d, xs = [a, b, c, d] := by
  rcases xs with _ | ⟨a, _ | ⟨b, _ | ⟨c, _ | ⟨d, _ | ⟨x, t⟩⟩⟩⟩⟩
  · simp at h
  · simp at h
  · simp at h
  · simp at h
  · exact ⟨a, b, c, d, rfl⟩
  · simp at h

set_option maxHeartbeats 3200000 in
set_option maxRecDepth 100000 in
theorem readMode_ok (s : ByteArray) (hs : s.size ≤ 1048576) (w : World) (hL : LibW w) :
    Calls Tryz.prog 61 #[.string s] w (RdMP s.data.toList w) := by
  have C := Lib.hid (fun w h => readNumbersS wMode (by decide) s hs 4 (by decide) w h)
  have L := Lib.hid hL
  have B := Lib.hid (Has1.new w 93)
  clear hL
  go_enter Tryz.func61, Tryz.ntmps61
  go_wp2_with fail
  refine (C.out _ (L.out.nw ((Nw.refl w).alloc _))).mono ?_
  rintro e w1 ⟨n1, ⟨xs, v, hx, hl, rfl, own⟩ | ⟨hno, rfl⟩⟩
  · obtain ⟨a, b, c, d, rfl⟩ := four hx
    obtain ⟨va, vc, rfl⟩ := own_shape' own
    obtain ⟨g, cap, hv, hcap, hmax, hgs, e0⟩ := own_sample (k := 0) own rfl rfl
    cases hv
    have e1 : w1.cell? ⟨g, 1, none⟩ = some (.float .f32 b) := own.cellAt 1 (by omega)
    have e2 : w1.cell? ⟨g, 2, none⟩ = some (.float .f32 c) := own.cellAt 2 (by omega)
    have e3 : w1.cell? ⟨g, 3, none⟩ = some (.float .f32 d) := own.cellAt 3 (by omega)
    have B1 := Lib.hid ((HasMode.new w 93 0 0 0 0).nw n1)
    have N1 := Lib.hid (((Nw.refl w).alloc (.cells #[.complex .f32 0 0, .complex .f32 0 0] 93 (0, 0))).trans n1)
    have Hl := Lib.hid hl
    clear n1 hl own hx
    go_upto_region 4 with fail
    refine wp_region_still_tail 15 (by kernel_rfl) (by kernel_rfl) ?_
    simp only [List.take_succ_cons, List.take_zero, List.drop_succ_cons, List.drop_zero]
    repeat still_step
    refine wpStill_nil ?_
    change wpList _ _ _ _ _ (w1.drewN 1)
    have N2 := Lib.hid (N1.out.draw 1)
    obtain ⟨m0, m1, m2, m3, m4⟩ := B1.out
    clear e0 e1 e2 e3
    have q0 : (w1.drewN 1).heap.size = w1.heap.size := rfl
    have q1 : (w1.drewN 1).cell? ⟨w.heap.size, 0, none⟩ = _ := m1
    have q2 : (w1.drewN 1).cell? ⟨w.heap.size, 1, none⟩ = _ := m2
    have q3 : (w1.drewN 1).frozen? ⟨w.heap.size, 0, none⟩ = _ := m3
    have q4 : (w1.drewN 1).frozen? ⟨w.heap.size, 1, none⟩ = _ := m4
    generalize w1.drewN 1 = w5 at *
    clear m0 m1 m2 m3 m4
    go_wp2_with fail
    have hx0 : w.heap.size ≠ w.heap.size + 1 := by omega
    exact bodyPost_ret (v := .tuple #[.agg #[.complex .f32 a b, .complex .f32 c d], .bool true]) (by simp [results, Tryz.results61, go_sem, q0, q1, q2, q3, q4]) rfl
      ⟨(N2.out.set (by show w.heap.size ≤ w.heap.size; omega) _).set (by show w.heap.size ≤ w.heap.size; omega) _, .inl ⟨⟨a, b, c, d⟩, Hl.out, rfl⟩⟩
  · obtain ⟨m0, m1, m2, m3, m4⟩ := (HasMode.new w 93 0 0 0 0).nw n1
    have N1 := Lib.hid (((Nw.refl w).alloc (.cells #[.complex .f32 0 0, .complex .f32 0 0] 93 (0, 0))).trans n1)
    have Hno := Lib.hid hno
    clear n1 hno
    go_wp2_with fail
    refine bodyPost_ret (v := .tuple #[.agg #[.complex .f32 0 0, .complex .f32 0 0], .bool false]) (by simp [results, Tryz.results61, go_sem, m0, m1, m2, m3, m4]) rfl
      ⟨(N1.out.set (by show w.heap.size ≤ w.heap.size; omega) _).set (by show w.heap.size ≤ w.heap.size; omega) _, .inr ⟨fun m h => ?_, rfl⟩⟩
    exact Hno.out _ rfl h

/-! ### the lines -/
def LinesI (l : List UInt8) (w0 : World) (t v i : Value) (wr : World) : Prop :=
  ∃ (k : Nat) (ms : List M4) (ps : List (List UInt8)) (r : List UInt8), k ≤ 16 ∧ ms.length = k ∧ i = .int .i64 (k : Int) ∧ t = .string ⟨r.toArray⟩ ∧ All2 LineM ps ms ∧ l = glueC 10 ps ++ r ∧ wr.ownsRow w0.heap.size 93 2 v k (cellsM ms) ∧ Nw w0 wr
def LinesP (l : List UInt8) (w : World) (e : Ending) (w' : World) : Prop :=
  ∃ (ms : List M4) (r : List UInt8) (v : Value), e = .returned (.tuple #[v, .string ⟨r.toArray⟩]) ∧ ReadT LineM 16 l ms r ∧ w'.ownsRow w.heap.size 93 2 v ms.length (cellsM ms) ∧ Nw w w'
set_option maxHeartbeats 6400000 in
set_option maxRecDepth 100000 in
theorem readLinesM (s : ByteArray) (hs : s.size ≤ 1048576) (w : World) (hL : LibW w) :
    Calls Tryz.prog 60 #[.string s, .int .i64 16, .func (.func 61) #[] #[]] w (LinesP s.data.toList w) := by
  obtain ⟨i0, hi, hz0, hz1, hz2⟩ := info_parts info_mode
  have hl : s.data.toList.length = s.size := Array.length_toList
  have L := Lib.hid hL
  clear hL
  go_enter Tryz.func60, Tryz.ntmps60
  go_wp2_with fail
  go_loopw [0, 8, 15] (fun t v i wr => LinesI s.data.toList w t v i wr) (fun _ _ i _ => 16 - (intOf i).toNat)
  case atStart => exact ⟨0, [], [], s.data.toList, by omega, rfl, rfl, rfl, trivial, rfl, World.ownsRow_nil _ _ _ _, Nw.refl _⟩
  case round =>
    obtain ⟨k, ms, ps, r, hk, hmk, rfl, rfl, hal, hlr, hown, hN⟩ := hrel
    have Al := Lib.hid hal
    have Hl := Lib.hid hlr
    have Ow := Lib.hid hown
    have Nr := Lib.hid hN
    have Mk := Lib.hid hmk
    have hrs : (⟨r.toArray⟩ : ByteArray).size ≤ 1048576 := by
      have h1 : s.data.toList.length = (glueC 10 ps).length + r.length := by rw [hlr, List.length_append]
      have h3 : (⟨r.toArray⟩ : ByteArray).size = r.length := List.size_toArray
      omega
    have hr1 : r.length ≤ 1048576 := by
      have h3 : (⟨r.toArray⟩ : ByteArray).size = r.length := List.size_toArray
      omega
    obtain ⟨sa, sl, sc, rfl⟩ := own_shape hown
    have hsz := Lib.hid (show w.heap.size ≤ wr.heap.size from hN.size)
    clear hal hlr hown hN hmk
    by_cases hlt : k < 16
    · have C := Lib.hid (cutLine_ok ⟨r.toArray⟩ hrs wr)
      clear hrs
      go_wp2_with fail
      refine C.out.mono ?_
      rintro e w1 ⟨n1, ⟨p, q, hpq0, hp, rfl⟩ | ⟨hno0, rfl⟩⟩
      · have hpq : r = p ++ 10 :: q := by simpa using hpq0
        have N1 := Lib.hid (Nr.out.trans n1)
        have O1 := Lib.hid (own_nw Ow.out n1)
        have hps : (⟨p.toArray⟩ : ByteArray).size ≤ 1048576 := by
          have h1 : r.length = p.length + (q.length + 1) := by rw [hpq, List.length_append, List.length_cons]
          have h3 : (⟨p.toArray⟩ : ByteArray).size = p.length := List.size_toArray
          omega
        have P := Lib.hid (readMode_ok ⟨p.toArray⟩ hps w1 (L.out.nw N1.out))
        have Hpq := Lib.hid (And.intro hpq hp)
        have hs1 := Lib.hid (show w.heap.size ≤ w1.heap.size from N1.out.size)
        clear n1 hpq hp hps hr1 hpq0
        go_wp2_with fail
        refine P.out.mono ?_
        rintro e w2 ⟨n2, ⟨m, hm, rfl⟩ | ⟨hno, rfl⟩⟩
        · have N2 := Lib.hid (N1.out.trans n2)
          have O2 := Lib.hid (own_nw O1.out n2)
          have Hm := Lib.hid hm
          obtain ⟨m0, m1, m2, -, -⟩ := HasMode.new w2 93 m.pr m.pi m.gr m.gi
          have hs2 := Lib.hid (show w.heap.size ≤ w2.heap.size from N2.out.size)
          clear n2 hm
          go_wp2_with (at_builtin; refine wpList_append_own _ rfl _ _ 36 rfl w.heap.size 93 i0 (.agg #[.complex .f32 0 0, .complex .f32 0 0]) 2 16 Tryz.underlying36 hi hz0 hz1 hz2 rfl (by decide) _ _ _ rfl ((O2.out.alloc _).alloc _) ⟨w2.heap.size + 1, 0, none⟩ 1 1 [.complex .f32 m.pr m.pi, .complex .f32 m.gr m.gi] rfl rfl ?c1 ?c2 ?c3 ?c4 ?c5 ?_)
          case c1 =>
            intro j u hj
            match j, hj with
            | 0, hj => simp at hj; subst hj; simp [Addr.add]
            | 1, hj => simp at hj; subst hj; simp [Addr.add]
          case c2 => intro u hu; simp at hu; rcases hu with rfl | rfl <;> rfl
          case c3 => unfold maxLen; omega
          case c4 => omega
          case c5 => have := hs2.out; simp; omega
          · intro v' w4 hown4 hgrow _
            have hrow : ∀ q, (Value.slice sa sl sc).ownBlock = some q → w.heap.size ≤ q := fun q hq => own_ge O2.out q hq
            have N4 := Lib.hid (nwg ((N2.out.alloc _).alloc _) hgrow hrow)
            rw [show cellsM ms ++ [Value.complex .f32 m.pr m.pi, Value.complex .f32 m.gr m.gi] = cellsM (ms ++ [m]) from (cellsM_snoc ms m).symm] at hown4
            have O4 := Lib.hid hown4
            clear hown4 hgrow hrow m0 m1 m2
            go_wp2_with fail
            go_roundw
            case rel =>
              refine ⟨k + 1, ms ++ [m], ps ++ [p], q, by omega, by rw [List.length_append, List.length_singleton, Mk.out], by rw [show ((k + 1 : Nat) : Int) = (k : Int) + 1 from by omega], rfl, Al.out.snoc Hm.out, ?_, O4.out, N4.out⟩
              rw [Hl.out, Hpq.out.1, glue_snoc]
              simp
            case measure => simp only [intOf]; omega
        · have N2 := Lib.hid (N1.out.trans n2)
          have O2 := Lib.hid (own_nw O1.out n2)
          have Hno := Lib.hid hno
          clear n2 hno
          go_wp2_with fail
          go_ret2
          exact ⟨ms, r, _, rfl, ⟨ps, Al.out, Hl.out, by rw [Mk.out]; omega, .inr (.inr ⟨p, q, Hpq.out.1, Hpq.out.2, Hno.out⟩)⟩, by rw [Mk.out]; exact own_nw O2.out ((Nw.refl _).alloc _), N2.out.alloc _⟩
      · have hno : (10 : UInt8) ∉ r := by simpa using hno0
        have N1 := Lib.hid (Nr.out.trans n1)
        have O1 := Lib.hid (own_nw Ow.out n1)
        have Hno := Lib.hid hno
        clear n1 hno hno0
        go_wp2_with fail
        go_ret2
        exact ⟨ms, r, _, rfl, ⟨ps, Al.out, Hl.out, by rw [Mk.out]; omega, .inr (.inl Hno.out)⟩, by rw [Mk.out]; exact O1.out, N1.out⟩
    · have hk16 : k = 16 := by omega
      clear hrs
      go_wp2_with fail
      go_ret2
      exact ⟨ms, r, _, rfl, ⟨ps, Al.out, Hl.out, by rw [Mk.out]; omega, .inl (by rw [Mk.out, hk16])⟩, by rw [Mk.out]; exact Ow.out, Nr.out⟩

/-! ### the body -/
def PbP (l : List UInt8) (w : World) (e : Ending) (w' : World) : Prop :=
  Nw w w' ∧ ((∃ (ms : List M4) (v : Value), GoodB l ms ∧ (∀ m ∈ ms, m.Fin ∧ m.bits) ∧ e = .returned (.tuple #[.agg #[v], .bool true]) ∧ w'.ownsRow w.heap.size 93 2 v ms.length (cellsM ms)) ∨
    ((∀ ms, ¬ GoodB l ms) ∧ e = .returned (.tuple #[.agg #[.slice none 0 0], .bool false])))
theorem lineM_fin {p : List UInt8} {m : M4} (h : LineM p m) : m.Fin ∧ m.bits := by
  obtain ⟨ts, -, a⟩ := h
  obtain ⟨t1, t2, t3, t4, rfl, a1, a2, a3, a4⟩ := all2_four a
  exact ⟨⟨a1.2.1, a2.2.1, a3.2.1, a4.2.1⟩, a1.1, a2.1, a3.1, a4.1⟩
theorem All2.memr {α β : Type} {R : α → β → Prop} : ∀ {l : List α} {m : List β}, All2 R l m → ∀ b ∈ m, ∃ a, R a b
  | [], [], _, b, h => by simp at h
  | x :: l, y :: m, h, b, hb => by
    rcases List.mem_cons.1 hb with rfl | hb
    · exact ⟨x, h.1⟩
    · exact h.2.memr b hb
  | [], _ :: _, h, _, _ => h.elim
  | _ :: _, [], h, _, _ => h.elim
set_option maxHeartbeats 3200000 in
set_option maxRecDepth 100000 in
theorem implParseBody (s : ByteArray) (hs : s.size ≤ 1048576) (w : World) (hL : LibW w) :
    Calls Tryz.prog 19 #[.string s] w (PbP s.data.toList w) := by
  have C := Lib.hid (readLinesM s hs)
  have L := Lib.hid hL
  have B := Lib.hid (Has1.new w 38 (.slice none 0 0))
  clear hL
  go_enter Tryz.func19, Tryz.ntmps19
  go_wp2_with fail
  refine (C.out _ (L.out.nw ((Nw.refl w).alloc _))).mono ?_
  rintro e w1 ⟨ms, r, v, rfl, hrd, own, n1⟩
  obtain ⟨va, vc, rfl⟩ := own_shape' own
  have Rd := Lib.hid hrd
  have O1 := Lib.hid own
  have B1 := Lib.hid (B.out.nw n1)
  have N1 := Lib.hid (((Nw.refl w).alloc (.cells #[.slice none 0 0] 38 (0, 0))).trans n1)
  have hfin : ∀ m ∈ ms, m.Fin ∧ m.bits := by
    obtain ⟨ps, h1, -⟩ := hrd
    intro m hm
    obtain ⟨p, hp⟩ := h1.memr m hm
    exact lineM_fin hp
  have Hf := Lib.hid hfin
  have h16 : ms.length ≤ 16 := by obtain ⟨ps, -, -, h, -⟩ := hrd; exact h
  have hs1 : w.heap.size < w1.heap.size := B1.out.1
  have hs0 : (w.alloc (.cells #[.slice none 0 0] 38 (0, 0))).heap.size = w.heap.size + 1 := by simp
  rw [hs0] at O1
  clear hrd own n1 hfin hs0
  obtain ⟨b0, b1, b2⟩ := B1.out
  by_cases hr : r = []
  · subst hr
    have O2 := Lib.hid (own_nw O1.out ((Nw.refl w1).alloc (.cells #[.slice va ms.length vc] 38 (0, 0))))
    have B2 := Lib.hid (B1.out.alloc (.cells #[.slice va ms.length vc] 38 (0, 0)))
    have E2 := Lib.hid (Has1.new w1 38 (.slice va ms.length vc))
    have N2 := Lib.hid (N1.out.alloc (.cells #[.slice va ms.length vc] 38 (0, 0)))
    go_wp2_with fail
    refine (implIsBody_fin ms (fun m hm => (Hf.out m hm).1) ms.length _ _ rfl (by omega) _ O2.out).mono ?_
    rintro e w3 ⟨rfl, n3⟩
    have O3 := Lib.hid (own_nw O2.out n3)
    have B3 := Lib.hid (B2.out.nw n3)
    have E3 := Lib.hid (E2.out.nw n3)
    have N3 := Lib.hid (N2.out.trans n3)
    have hs3 := Lib.hid (show w.heap.size < w3.heap.size from B3.out.1)
    clear n3 b0 b1 b2
    obtain ⟨b0, b1, b2⟩ := B3.out
    obtain ⟨e0, e1, e2⟩ := E3.out
    have hne : w1.heap.size ≠ w.heap.size := by omega
    cases hb : bodyB ms with
    | true =>
      go_wp2_with fail
      refine bodyPost_ret (v := .tuple #[.agg #[.slice va ms.length vc], .bool true]) (by simp [results, Tryz.results19, go_sem, b0, b1, b2]) rfl
        ⟨N3.out.set (by show w.heap.size ≤ w.heap.size; omega) _, .inl ⟨ms, _, ⟨hb, Rd.out.done⟩, Hf.out, rfl, own_base (own_set O3.out (by show w.heap.size < w.heap.size + 1; omega) _) (by omega)⟩⟩
    | false =>
      go_wp2_with fail
      refine bodyPost_ret (v := .tuple #[.agg #[.slice none 0 0], .bool false]) (by simp [results, Tryz.results19, go_sem, b0, b1, b2]) rfl
        ⟨N3.out.set (by show w.heap.size ≤ w.heap.size; omega) _, .inr ⟨fun ns h => ?_, rfl⟩⟩
      have e := LinesT.val lineM_K Rd.out.done h.2
      rw [e, h.1] at hb
      cases hb
  · have hr0 : (r == []) = false := by simpa using hr
    go_wp2_with fail
    refine bodyPost_ret (v := .tuple #[.agg #[.slice none 0 0], .bool false]) (by simp [results, Tryz.results19, go_sem, b0, b1, b2]) rfl
      ⟨(N1.out.set (by show w.heap.size ≤ w.heap.size; omega) _).alloc _, .inr ⟨fun ns h => ?_, rfl⟩⟩
    exact hr (Rd.out.rest lineM_K h.2 ((bodyB_iff ns).1 h.1).1)
end Go.Proofs.YtnmjkjjmigiabaaGreatDoor

/- The model's l6Mode and ParseBody.
   Conditions: those that each statement names. -/
namespace Go.Proofs.YtnmjkjjmigiabaaGreatDoor
set_option linter.unusedSimpArgs false
set_option linter.unusedVariables false
open Go Go.RowKit

/-- a mode is read, or one that is not valid; what is read may have another word -/
def L6P (l : List UInt8) (w : World) (e : Ending) (w' : World) : Prop :=
  Nw w w' ∧ ∃ m : M4, m.Fin ∧ m.bits ∧ (∀ m', LineM l m' → m = m') ∧ e = .returned (.agg #[.complex .f32 m.pr m.pi, .complex .f32 m.gr m.gi])
def badM : M4 := ⟨1073741824, 0, 0, 0⟩
theorem badM_fin : badM.Fin ∧ badM.bits := by
  have z : Sm 0 := ⟨false, 0, -149, by decide⟩
  exact ⟨⟨⟨false, 8388608, -22, by decide⟩, z, z, z⟩, by decide, by decide, by decide, by decide⟩

def L6I (ts : List (List UInt8)) (B : Nat) (w0 : World) (v i : Value) (wr : World) : Prop :=
  ∃ xs : List Nat, xs.length ≤ ts.length ∧ i = .int .i64 (xs.length : Int) ∧ All2 TxS (ts.take xs.length) xs ∧ wr.ownsRow B 25 1 v xs.length (cellsS xs) ∧ Nw w0 wr
set_option maxHeartbeats 6400000 in
set_option maxRecDepth 100000 in
theorem l6Mode_ok (s : ByteArray) (hs : s.size ≤ 1048576) (w : World) :
    Calls Tryz.prog 79 #[.string s] w (L6P s.data.toList w) := by
  obtain ⟨f0, hf0, hfz0, hfz1, hfz2⟩ := info_parts info_f32
  have C := Lib.hid (l1Split_any 32 s hs)
  have B := Lib.hid (HasMode.new w 93 0 0 0 0)
  go_enter Tryz.func79, Tryz.ntmps79
  go_wp2_with fail
  refine (C.out _).mono ?_
  rintro e w1 ⟨ps, r, v, rfl, hl, hps, hr, own, n1⟩
  have hsp : spl 32 s.data.toList = ps ++ [r] := by rw [hl, spl_glue hps, spl_none hr]
  have hs0 : (w.alloc (.cells #[.complex .f32 0 0, .complex .f32 0 0] 93 (0, 0))).heap.size = w.heap.size + 1 := by simp
  rw [hs0] at own
  obtain ⟨qs, hqs⟩ : ∃ qs, qs = ps ++ [r] := ⟨_, rfl⟩
  rw [← hqs] at hsp own
  have hql : ps.length + 1 = qs.length := by rw [hqs]; simp
  rw [hql] at own
  obtain ⟨va, vc, rfl⟩ := own_shape' own
  have Sp := Lib.hid hsp
  have B1 := Lib.hid (B.out.nw n1)
  have hw1 : w.heap.size < w1.heap.size := by have := (B.out.nw n1).1; omega
  have E1 := Lib.hid (HasMode.new w1 93 1073741824 0 0 0)
  have N0 := Lib.hid (((Nw.refl w).alloc (.cells #[.complex .f32 0 0, .complex .f32 0 0] 93 (0, 0))).trans n1)
  have O0 := Lib.hid own
  have N1 := Lib.hid ((((Nw.refl w).alloc (.cells #[.complex .f32 0 0, .complex .f32 0 0] 93 (0, 0))).trans n1).alloc (.cells #[.complex .f32 1073741824 0, .complex .f32 0 0] 93 (0, 0)))
  have O1 := Lib.hid (own.alloc (.cells #[.complex .f32 1073741824 0, .complex .f32 0 0] 93 (0, 0)))
  have hlt1 : ∀ q, (Value.slice va qs.length vc).ownBlock = some q → q < w1.heap.size := fun q hq => (own.lt q hq).2
  have Lt := Lib.hid hlt1
  clear hl hps hr own n1 hs0 hsp hqs hql hlt1
  have hne : w.heap.size ≠ w1.heap.size := by omega
  obtain ⟨m0, m1, m2, m3, m4⟩ := B1.out
  by_cases h5 : qs.length = 5
  · obtain ⟨q0, ts, rfl⟩ : ∃ p0 ts, qs = p0 :: ts := by
      cases qs with
      | nil => simp at h5
      | cons p ts => exact ⟨p, ts, rfl⟩
    have Ht := Lib.hid (show ts.length = 4 by simpa using h5)
    rw [h5] at O0 O1 Lt ⊢
    clear h5
    obtain ⟨g, hva, hcv⟩ : ∃ g, va = some ⟨g, 0, none⟩ ∧ 5 ≤ vc := by
      rcases O0.out.2 with ⟨h0, h1⟩ | ⟨g, cap, cur, hv, hb, hg, hc, hm, -, -⟩
      · exact absurd h1 (by decide)
      · cases hv; exact ⟨g, rfl, hc⟩
    subst hva
    have hgw : g < w1.heap.size := Lt.out g rfl
    have Z := Lib.hid (World.ownsRow_lit (base := w1.heap.size + 1) (e := 25) (size := 1) (w1.alloc (.cells #[.complex .f32 1073741824 0, .complex .f32 0 0] 93 (0, 0))) #[] 0 (by simp) (by decide) rfl)
    go_wp2_with fail
    go_loopw [5, 21] (fun v i wr => L6I ts (w1.heap.size + 1) (w1.alloc (.cells #[.complex .f32 1073741824 0, .complex .f32 0 0] 93 (0, 0))) v i wr) (fun _ i _ => 4 - (intOf i).toNat)
    case atStart => exact ⟨[], by simp, rfl, trivial, by simpa [cellsS] using Z.out, (Nw.refl _).alloc _⟩
    case round =>
      obtain ⟨xs, hk, rfl, hal, how, hN⟩ := hrel
      have Al := Lib.hid hal
      have Or := Lib.hid how
      have Nr := Lib.hid hN
      have hsz := Lib.hid (show w1.heap.size + 1 ≤ wr.heap.size from by have := hN.size; simpa using this)
      have hk4 : xs.length ≤ 4 := by rw [Ht.out] at hk; exact hk
      clear hal hN hk
      obtain ⟨xa, xl, xc, rfl⟩ := own_shape how
      have D := Lib.hid (E1.out.nw (Nr.out))
      clear how
      have Bd := Lib.hid ((B1.out.alloc (.cells #[.complex .f32 1073741824 0, .complex .f32 0 0] 93 (0, 0))).nw Nr.out)
      by_cases hlt : xs.length < 4
      · obtain ⟨t, htk⟩ : ∃ t, ts[xs.length]? = some t := ⟨ts[xs.length]'(by rw [Ht.out]; exact hlt), List.getElem?_eq_getElem _⟩
        have e0 := (own_nw O1.out Nr.out).cellAt (xs.length + 1) (by omega)
        rw [show (cellsT (q0 :: ts))[xs.length + 1]? = some (.string ⟨t.toArray⟩) from by unfold cellsT; rw [List.getElem?_map, List.getElem?_cons_succ, htk]; rfl, Nat.add_comm] at e0
        have htm : t ∈ spl 32 s.data.toList := by rw [Sp.out]; exact List.mem_cons_of_mem _ (List.mem_of_getElem? htk)
        have hts : (⟨t.toArray⟩ : ByteArray).size ≤ 1048576 := by
          have h1 := spl_len htm
          have h2 : s.data.toList.length = s.size := Array.length_toList
          have h3 : (⟨t.toArray⟩ : ByteArray).size = t.length := List.size_toArray
          omega
        have P := Lib.hid (specSingle ⟨t.toArray⟩ hts wr)
        have Tk := Lib.hid htk
        clear htk htm hts
        go_wp2_with fail
        refine P.out.mono ?_
        rintro e w5 ⟨n5, ⟨r, hr, hsm, ht, rfl⟩ | ⟨hno, rfl⟩⟩
        · have N5 := Lib.hid (Nr.out.trans n5)
          have O5 := Lib.hid (own_nw Or.out n5)
          have K := Lib.hid (show TxS t r from ⟨hr, hsm, ht⟩)
          have hs5 := Lib.hid (show w1.heap.size + 1 ≤ w5.heap.size from by have := n5.size; have := hsz.out; omega)
          clear n5 hr hsm ht e0
          go_wp2_with (at_builtin; refine wpList_append_own _ rfl _ _ 35 rfl (w1.heap.size + 1) 25 f0 (.float .f32 0) 1 4 Tryz.underlying35 hf0 hfz0 hfz1 hfz2 rfl (by decide) _ _ _ rfl (O5.out.alloc _) ⟨w5.heap.size, 0, none⟩ 1 1 [.float .f32 r] rfl rfl ?c1 ?c2 ?c3 ?c4 ?c5 ?_)
          case c1 =>
            intro j u hj
            match j, hj with
            | 0, hj => simp at hj; subst hj; simp [Addr.add]
          case c2 => intro u hu; simp at hu; subst hu; rfl
          case c3 => unfold maxLen; omega
          case c4 => omega
          case c5 => have := hs5.out; simp; omega
          · intro v' w6 hown6 hgrow _
            have hrow : ∀ q, (Value.slice xa xl xc).ownBlock = some q → (w1.alloc (.cells #[.complex .f32 1073741824 0, .complex .f32 0 0] 93 (0, 0))).heap.size ≤ q := fun q hq => by have := own_ge O5.out q hq; simpa using this
            have N6 := Lib.hid (nwg (N5.out.alloc _) hgrow hrow)
            rw [show cellsS xs ++ [Value.float .f32 r] = cellsS (xs ++ [r]) from by simp [cellsS]] at hown6
            have O6 := Lib.hid hown6
            clear hown6 hgrow hrow
            go_wp2_with fail
            go_roundw
            case rel =>
              refine ⟨xs ++ [r], by rw [List.length_append, List.length_singleton, Ht.out]; omega, by rw [List.length_append, List.length_singleton, show ((xs.length + 1 : Nat) : Int) = (xs.length : Int) + 1 from by omega], ?_, by rw [List.length_append, List.length_singleton]; exact O6.out, N6.out⟩
              rw [List.length_append, List.length_singleton, List.take_add_one, Tk.out]
              exact Al.out.snoc K.out
            case measure => simp only [intOf]; omega
        · have N5 := Lib.hid (Nr.out.trans n5)
          have Hno := Lib.hid hno
          obtain ⟨d0, d1, d2, d3, d4⟩ := D.out.nw n5
          obtain ⟨m0, m1, m2, m3, m4⟩ := Bd.out.nw n5
          clear n5 hno e0
          go_wp2_with fail
          refine bodyPost_ret (v := .agg #[.complex .f32 1073741824 0, .complex .f32 0 0]) (by simp [results, Tryz.results79, go_sem, m0, m1, m2, m3, m4]) rfl
            ⟨((N1.out.trans N5.out).set (by show w.heap.size ≤ w.heap.size; omega) _).set (by show w.heap.size ≤ w.heap.size; omega) _, badM, badM_fin.1, badM_fin.2, fun m' h => ?_, rfl⟩
          obtain ⟨us, e, a⟩ := h
          rw [Sp.out] at e
          injection e with _ e
          subst e
          obtain ⟨y, -, hy⟩ := a.get Tk.out
          exact absurd hy.2.2 (Hno.out y hy.1 hy.2.1)
      · obtain ⟨a, b, c, d, rfl⟩ := four (show xs.length = 4 by omega)
        have hall : All2 TxS ts [a, b, c, d] := by
          have h := Al.out
          rw [List.take_of_length_le (by rw [Ht.out]; exact Nat.le_refl _)] at h
          exact h
        have All := Lib.hid hall
        clear hall hlt hk4
        obtain ⟨gx, hxa, hxl⟩ : ∃ gx, xa = some ⟨gx, 0, none⟩ ∧ xl = 4 := by
          rcases Or.out.2 with ⟨h0, h1⟩ | ⟨g, cap, cur, hv, hb, hg, hc, hm, -, -⟩
          · exact absurd h1 (by simp)
          · cases hv; exact ⟨g, rfl, rfl⟩
        subst hxa hxl
        have e0 : wr.cell? ⟨gx, 0, none⟩ = some (.float .f32 a) := Or.out.cellAt 0 (by simp)
        have e1 : wr.cell? ⟨gx, 1, none⟩ = some (.float .f32 b) := Or.out.cellAt 1 (by simp)
        have e2 : wr.cell? ⟨gx, 2, none⟩ = some (.float .f32 c) := Or.out.cellAt 2 (by simp)
        have e3 : wr.cell? ⟨gx, 3, none⟩ = some (.float .f32 d) := Or.out.cellAt 3 (by simp)
        go_upto_region 14 with fail
        refine wp_region_still_tail 15 (by kernel_rfl) (by kernel_rfl) ?_
        simp only [List.take_succ_cons, List.take_zero, List.drop_succ_cons, List.drop_zero]
        repeat still_step
        refine wpStill_nil ?_
        change wpList _ _ _ _ _ (wr.drewN 1)
        have N2 := Lib.hid ((N1.out.trans Nr.out).draw 1)
        obtain ⟨m0, m1, m2, m3, m4⟩ := Bd.out.draw 1
        clear e0 e1 e2 e3
        generalize wr.drewN 1 = w7 at *
        go_wp2_with fail
        refine bodyPost_ret (v := .agg #[.complex .f32 a b, .complex .f32 c d]) (by simp [results, Tryz.results79, go_sem, m0, m1, m2, m3, m4]) rfl
          ⟨(N2.out.set (by show w.heap.size ≤ w.heap.size; omega) _).set (by show w.heap.size ≤ w.heap.size; omega) _, ⟨a, b, c, d⟩, ?_, ?_, fun m' h => ?_, rfl⟩
        · obtain ⟨t1, t2, t3, t4, -, a1, a2, a3, a4⟩ := all2_four All.out
          exact ⟨a1.2.1, a2.2.1, a3.2.1, a4.2.1⟩
        · obtain ⟨t1, t2, t3, t4, -, a1, a2, a3, a4⟩ := all2_four All.out
          exact ⟨a1.1, a2.1, a3.1, a4.1⟩
        · obtain ⟨us, e, a2⟩ := h
          rw [Sp.out] at e
          injection e with _ e
          subst e
          have h5 := All2.right (R := TxS) (fun _ _ _ h k => txS_K.val h k) All.out a2
          obtain ⟨a', b', c', d'⟩ := m'
          simp at h5
          obtain ⟨rfl, rfl, rfl, rfl⟩ := h5
          rfl
  · have hq : ((qs.length : Int) == 5) = false := by simp; omega
    obtain ⟨d0, d1, d2, d3, d4⟩ := E1.out
    go_wp2_with fail
    refine bodyPost_ret (v := .agg #[.complex .f32 1073741824 0, .complex .f32 0 0]) (by simp [results, Tryz.results79, go_sem, m0, m1, m2, m3, m4]) rfl
      ⟨((N0.out.set (by show w.heap.size ≤ w.heap.size; omega) _).set (by show w.heap.size ≤ w.heap.size; omega) _).alloc _, badM, badM_fin.1, badM_fin.2, fun m' h => ?_, rfl⟩
    obtain ⟨ts, e, a⟩ := h
    rw [Sp.out] at e
    have := a.len
    simp at this
    rw [e] at h5
    simp [this] at h5
end Go.Proofs.YtnmjkjjmigiabaaGreatDoor
