/- Plain facts: how far the states of a mode that is stepped with small errors lie from those of the mode that is stepped exactly. No program stands in it.
   Conditions: those that each statement names. -/
import Derived.Test.YtlhhcchncobmhaaStepD
namespace Go.Proofs.Ytlhhcchncobmhaa
set_option linter.unusedSimpArgs false
set_option linter.unusedVariables false
open Go

/-! ### sizes in the plane -/
def N (a b B : Rat) : Prop := 0 ≤ B ∧ a * a + b * b ≤ B * B
theorem le_of_sq {a B : Rat} (hB : 0 ≤ B) (h : a * a ≤ B * B) : a ≤ B := by
  rcases Rat.le_total (a := a) (b := B) with g | g
  · exact g
  · have h1 := Rat.mul_nonneg (show 0 ≤ a - B by grind) hB
    have h2 := Rat.mul_nonneg (show 0 ≤ a - B by grind) (show 0 ≤ a - B by grind)
    by_cases e : a = B
    · grind
    · have : 0 < a - B := by grind
      have h3 := Rat.mul_pos this this
      grind
theorem N.ab {a b B : Rat} (h : N a b B) : Flo.Ab a B ∧ Flo.Ab b B := by
  obtain ⟨h0, h1⟩ := h
  have ha := square_nonneg a
  have hb := square_nonneg b
  have k1 := le_of_sq h0 (show a * a ≤ B * B by grind)
  have k2 := le_of_sq h0 (show b * b ≤ B * B by grind)
  have k3 := le_of_sq (a := -a) h0 (by grind)
  have k4 := le_of_sq (a := -b) h0 (by grind)
  exact ⟨⟨by grind, k1⟩, ⟨by grind, k2⟩⟩
theorem N.zero : N 0 0 0 := ⟨by grind, by grind⟩
theorem N.mono {a b B C : Rat} (h : N a b B) (hC : B ≤ C) : N a b C := by
  obtain ⟨h0, h1⟩ := h
  refine ⟨by grind, ?_⟩
  have h2 := Rat.mul_le_mul_of_nonneg_left hC h0
  have h3 := Rat.mul_le_mul_of_nonneg_right hC (show 0 ≤ C by grind)
  grind
theorem N.eq {a b a' b' B : Rat} (h : N a b B) (h1 : a = a') (h2 : b = b') : N a' b' B := h1 ▸ h2 ▸ h
theorem N.add {a b c d B C : Rat} (h : N a b B) (g : N c d C) : N (a + c) (b + d) (B + C) := by
  obtain ⟨h0, h1⟩ := h
  obtain ⟨g0, g1⟩ := g
  refine ⟨by grind, ?_⟩
  have hBC := Rat.mul_nonneg h0 g0
  have k1 := Rat.mul_le_mul_of_nonneg_left g1 (show 0 ≤ a * a + b * b by have := square_nonneg a; have := square_nonneg b; grind)
  have k2 := Rat.mul_le_mul_of_nonneg_right h1 (square_nonneg C)
  have k3 := square_nonneg (a * d - b * c)
  have k4 := le_of_sq (a := a * c + b * d) hBC (by grind)
  grind
theorem N.mul {a b c d B T : Rat} (h : N a b B) (hT : 0 ≤ T) (g : c * c + d * d ≤ T * T) : N (a * c - b * d) (a * d + b * c) (B * T) := by
  obtain ⟨h0, h1⟩ := h
  refine ⟨Rat.mul_nonneg h0 hT, ?_⟩
  have k1 := Rat.mul_le_mul_of_nonneg_left g (show 0 ≤ a * a + b * b by have := square_nonneg a; have := square_nonneg b; grind)
  have k2 := Rat.mul_le_mul_of_nonneg_right h1 (square_nonneg T)
  grind
theorem N.parts {a b L : Rat} (h : Flo.Ab a L) (g : Flo.Ab b L) : N a b (3 / 2 * L) := by
  have hL := h.nonneg
  have h2 := h.mul h
  have g2 := g.mul g
  unfold Flo.Ab at h2 g2
  have := square_nonneg L
  exact ⟨by grind, by grind⟩
theorem N.gain (g h x : Rat) : N (g * x) (h * x) ((ra g + ra h) * ra x) := by
  have a := ra_nonneg g
  have b := ra_nonneg h
  have c := ra_nonneg x
  refine ⟨Rat.mul_nonneg (by grind) c, ?_⟩
  have e1 := ra_sq g
  have e2 := ra_sq h
  have e3 := ra_sq x
  have k := Rat.mul_nonneg (Rat.mul_nonneg a b) (square_nonneg (ra x))
  have : g * x * (g * x) + h * x * (h * x) = (ra g * ra g) * (ra x * ra x) + (ra h * ra h) * (ra x * ra x) := by rw [e1, e2, e3]; grind
  rw [this]
  grind

/-! ### trajectories -/
def psum (x : Nat → Rat) : Nat → Rat
  | 0 => 0
  | i + 1 => psum x i + ra (x i)
theorem psum_nonneg (x : Nat → Rat) : ∀ i, 0 ≤ psum x i
  | 0 => by simp [psum]
  | i + 1 => by have := psum_nonneg x i; have := ra_nonneg (x i); simp only [psum]; grind

/-- the states of a mode that is stepped exactly -/
def zt (c d g h : Rat) (x : Nat → Rat) : Nat → Rat × Rat
  | 0 => (0, 0)
  | i + 1 => ((zt c d g h x i).1 * c - (zt c d g h x i).2 * d + g * x i, (zt c d g h x i).1 * d + (zt c d g h x i).2 * c + h * x i)

theorem pole_T {c d : Rat} (hp : c * c + d * d ≤ 1 + 1 / 100000) : c * c + d * d ≤ (1 + 1 / 200000) * (1 + 1 / 200000) := by grind

/-- growth by at most one part in 200,000 a step -/
theorem grow (i : Nat) (hi : i < 2000) : (1 + (i : Rat) / 100000) * (1 + 1 / 200000) ≤ 1 + ((i + 1 : Nat) : Rat) / 100000 := by
  have h1 : (i : Rat) ≤ 2000 := by have : ((i : Nat) : Rat) ≤ ((2000 : Nat) : Rat) := by exact_mod_cast (by omega : i ≤ 2000)
                                   exact this
  have h2 : ((i + 1 : Nat) : Rat) = (i : Rat) + 1 := by exact_mod_cast rfl
  rw [h2]
  grind

theorem zt_N (c d g h : Rat) (x : Nat → Rat) (hp : c * c + d * d ≤ 1 + 1 / 100000) : ∀ i, i ≤ 2000 → N (zt c d g h x i).1 (zt c d g h x i).2 ((ra g + ra h) * psum x i * (1 + (i : Rat) / 100000))
  | 0, _ => by
    have : (ra g + ra h) * psum x 0 * (1 + ((0 : Nat) : Rat) / 100000) = 0 := by simp [psum]
    rw [this]; exact N.zero
  | i + 1, hi => by
    have ih := zt_N c d g h x hp i (by omega)
    have h1 := (ih.mul (show (0 : Rat) ≤ 1 + 1 / 200000 by grind) (pole_T hp)).add (N.gain g h (x i))
    refine (h1.eq rfl rfl).mono ?_
    have hG : 0 ≤ ra g + ra h := by have := ra_nonneg g; have := ra_nonneg h; grind
    have hP := psum_nonneg x i
    have hgr := grow i (by omega)
    have k1 := Rat.mul_le_mul_of_nonneg_left hgr (Rat.mul_nonneg hG hP)
    have hx := Rat.mul_nonneg hG (ra_nonneg (x i))
    have h2 : ((i + 1 : Nat) : Rat) = (i : Rat) + 1 := by exact_mod_cast rfl
    have hi0 : (0 : Rat) ≤ (i : Rat) := by exact_mod_cast Nat.zero_le i
    have k2 := Rat.mul_nonneg hx (show (0 : Rat) ≤ ((i : Rat) + 1) / 100000 by grind)
    rw [h2] at k1 ⊢
    simp only [psum]
    grind

/-- a mode that is stepped with errors of at most L in each part -/
theorem traj (c d g h : Rat) (x : Nat → Rat) (hp : c * c + d * d ≤ 1 + 1 / 100000) (s : Nat → Rat × Rat) (h0 : s 0 = (0, 0)) (X M L : Rat) (n : Nat) (hn : n ≤ 2000) (hL : 0 ≤ L)
    (hX : ∀ i, i ≤ n → psum x i ≤ X) (hM : 51 / 50 * ((ra g + ra h) * X + (n : Rat) * (3 / 2 * L)) ≤ M) (Q : Nat → Prop) (q0 : Q 0)
    (hstep : ∀ i, i < n → Q i → N (s i).1 (s i).2 M → Q (i + 1) ∧ Flo.Ab ((s (i + 1)).1 - ((s i).1 * c - (s i).2 * d + g * x i)) L ∧ Flo.Ab ((s (i + 1)).2 - ((s i).1 * d + (s i).2 * c + h * x i)) L) :
    ∀ i, i ≤ n → Q i ∧ N ((s i).1 - (zt c d g h x i).1) ((s i).2 - (zt c d g h x i).2) ((i : Rat) * (3 / 2 * L) * (1 + (i : Rat) / 100000)) ∧ N (s i).1 (s i).2 M := by
  have hG : 0 ≤ ra g + ra h := by have := ra_nonneg g; have := ra_nonneg h; grind
  have toM : ∀ i, i ≤ n → N ((s i).1 - (zt c d g h x i).1) ((s i).2 - (zt c d g h x i).2) ((i : Rat) * (3 / 2 * L) * (1 + (i : Rat) / 100000)) → N (s i).1 (s i).2 M := by
    intro i hi e
    have hz := zt_N c d g h x hp i (by omega)
    refine ((e.add hz).eq (by grind) (by grind)).mono ?_
    have hin : (i : Rat) ≤ (n : Rat) := by exact_mod_cast hi
    have hi2 : (i : Rat) ≤ 2000 := by
      have : ((i : Nat) : Rat) ≤ ((2000 : Nat) : Rat) := by exact_mod_cast (by omega : i ≤ 2000)
      exact this
    have hi0 : (0 : Rat) ≤ (i : Rat) := by exact_mod_cast Nat.zero_le i
    have f : 1 + (i : Rat) / 100000 ≤ 51 / 50 := by grind
    have a1 := Rat.mul_le_mul_of_nonneg_right hin (show 0 ≤ 3 / 2 * L by grind)
    have a2 := Rat.mul_nonneg hi0 (show 0 ≤ 3 / 2 * L by grind)
    have a3 := Rat.mul_le_mul_of_nonneg_left f a2
    have b1 := Rat.mul_le_mul_of_nonneg_left (hX i hi) hG
    have b2 := Rat.mul_nonneg hG (psum_nonneg x i)
    have b3 := Rat.mul_le_mul_of_nonneg_left f b2
    grind
  intro i
  induction i with
  | zero =>
    intro hi
    have e : N ((s 0).1 - (zt c d g h x 0).1) ((s 0).2 - (zt c d g h x 0).2) (((0 : Nat) : Rat) * (3 / 2 * L) * (1 + ((0 : Nat) : Rat) / 100000)) := by
      rw [h0]
      simp only [zt]
      have : ((0 : Nat) : Rat) * (3 / 2 * L) * (1 + ((0 : Nat) : Rat) / 100000) = 0 := by simp
      rw [this]
      exact N.zero.eq (by grind) (by grind)
    exact ⟨q0, e, toM 0 hi e⟩
  | succ i ih =>
    intro hi
    obtain ⟨q, e, hs⟩ := ih (by omega)
    obtain ⟨q', l1, l2⟩ := hstep i (by omega) q hs
    have e' : N ((s (i + 1)).1 - (zt c d g h x (i + 1)).1) ((s (i + 1)).2 - (zt c d g h x (i + 1)).2) (((i + 1 : Nat) : Rat) * (3 / 2 * L) * (1 + ((i + 1 : Nat) : Rat) / 100000)) := by
      have k := (e.mul (show (0 : Rat) ≤ 1 + 1 / 200000 by grind) (pole_T hp)).add (N.parts l1 l2)
      refine (k.eq ?_ ?_).mono ?_
      · simp only [zt]; grind
      · simp only [zt]; grind
      · have hgr := grow i (by omega)
        have hi0 : (0 : Rat) ≤ (i : Rat) := by exact_mod_cast Nat.zero_le i
        have a2 := Rat.mul_nonneg hi0 (show 0 ≤ 3 / 2 * L by grind)
        have a3 := Rat.mul_le_mul_of_nonneg_left hgr a2
        have h2 : ((i + 1 : Nat) : Rat) = (i : Rat) + 1 := by exact_mod_cast rfl
        have a4 := Rat.mul_nonneg (show 0 ≤ 3 / 2 * L by grind) (show (0 : Rat) ≤ ((i : Rat) + 1) / 100000 by grind)
        rw [h2] at a3 ⊢
        grind
    exact ⟨q', e', toM (i + 1) hi e'⟩

end Go.Proofs.Ytlhhcchncobmhaa
