/- Plain: absolute values of complex numbers, without roots; products and recordings, near what they are exactly.
   Conditions: those that each statement names. -/
import Derived.Test.YtlhhcchncobmhaaFitN
namespace Go.Proofs.Ytlhhcchncobmhaa
set_option linter.unusedSimpArgs false
set_option linter.unusedVariables false
open Go Go.RowKit

theorem le_tot (x y : Rat) : x ≤ y ∨ y ≤ x := Rat.le_total
theorem le_of_sqz {X Y : Rat} (hY : 0 ≤ Y) (h : X * X ≤ Y * Y) : X ≤ Y := by
  rcases le_tot X Y with g | g
  · exact g
  · have h1 : 0 ≤ (X - Y) * (X - Y) := Rat.mul_nonneg (by grind) (by grind)
    have h2 : 0 ≤ Y * (X - Y) := Rat.mul_nonneg hY (by grind)
    have h3 : (X - Y) * (X - Y) ≤ 0 := by grind
    have h4 : (X - Y) * (X - Y) = 0 := by grind
    have h5 : X - Y = 0 := by
      rcases le_tot X Y with k | k
      · grind
      · rcases Rat.mul_eq_zero.1 h4 with e | e <;> exact e
    grind
theorem sq_nonneg' (x : Rat) : 0 ≤ x * x := by
  rcases le_tot 0 x with g | g
  · exact Rat.mul_nonneg g g
  · have := Rat.mul_nonneg (show 0 ≤ -x by grind) (show 0 ≤ -x by grind)
    grind
theorem ab_of_sq {X Y : Rat} (hY : 0 ≤ Y) (h : X * X ≤ Y * Y) : Flo.Ab X Y := by
  unfold Flo.Ab
  have h1 := le_of_sqz hY h
  have h2 := le_of_sqz (X := -X) hY (by grind)
  grind
theorem sq_of_ab {X Y : Rat} (h : Flo.Ab X Y) : X * X ≤ Y * Y := by
  have h1 := h.mul h
  exact h1.2
theorem sq_le_sq {X Y : Rat} (h0 : 0 ≤ X) (h : X ≤ Y) : X * X ≤ Y * Y := sq_of_ab ⟨by grind, h⟩

/-- a complex number whose absolute value is at most A times the root of g -/
def Sz (x y A g : Rat) : Prop := 0 ≤ A ∧ 0 ≤ g ∧ x * x + y * y ≤ A * A * g
theorem Sz.mono {x y A B g : Rat} (h : Sz x y A g) (hb : A ≤ B) : Sz x y B g := by
  obtain ⟨h1, h2, h3⟩ := h
  have := Rat.mul_le_mul_of_nonneg_right (sq_le_sq h1 hb) h2
  exact ⟨by grind, h2, by grind⟩
theorem Sz.eq {x y a b A g : Rat} (h : Sz x y A g) (h1 : x = a) (h2 : y = b) : Sz a b A g := h1 ▸ h2 ▸ h
theorem Sz.scale {x y A B g k : Rat} (h : Sz x y A g) (hB : 0 ≤ B) (hk : 0 ≤ k) (hg : g ≤ B * B * k) : Sz x y (A * B) k := by
  obtain ⟨h1, h2, h3⟩ := h
  have := Rat.mul_le_mul_of_nonneg_left hg (Rat.mul_nonneg h1 h1)
  exact ⟨Rat.mul_nonneg h1 hB, hk, by grind⟩
theorem Sz.neg {x y A g : Rat} (h : Sz x y A g) : Sz (-x) (-y) A g := by
  obtain ⟨h1, h2, h3⟩ := h
  exact ⟨h1, h2, by grind⟩
theorem Sz.conj {x y A g : Rat} (h : Sz x y A g) : Sz x (-y) A g := by
  obtain ⟨h1, h2, h3⟩ := h
  exact ⟨h1, h2, by grind⟩
theorem Sz.add {a b c d A B g : Rat} (h : Sz a b A g) (k : Sz c d B g) : Sz (a + c) (b + d) (A + B) g := by
  obtain ⟨h1, h2, h3⟩ := h
  obtain ⟨k1, -, k3⟩ := k
  have hAB : 0 ≤ A * B * g := Rat.mul_nonneg (Rat.mul_nonneg h1 k1) h2
  have e1 : (a * c + b * d) * (a * c + b * d) ≤ (A * B * g) * (A * B * g) := by
    have f1 : (a * a + b * b) * (c * c + d * d) - (a * c + b * d) * (a * c + b * d) = (a * d - b * c) * (a * d - b * c) := by grind
    have f2 := sq_nonneg' (a * d - b * c)
    have f3 : 0 ≤ c * c + d * d := by have := sq_nonneg' c; have := sq_nonneg' d; grind
    have f4 := Rat.mul_le_mul_of_nonneg_right h3 f3
    have f5 := Rat.mul_le_mul_of_nonneg_left k3 (Rat.mul_nonneg (Rat.mul_nonneg h1 h1) h2)
    grind
  have e2 := le_of_sqz hAB e1
  exact ⟨by grind, h2, by grind⟩
theorem Sz.sub {a b c d A B g : Rat} (h : Sz a b A g) (k : Sz c d B g) : Sz (a - c) (b - d) (A + B) g :=
  (h.add k.neg).eq (by grind) (by grind)
theorem Sz.mul {a b c d A B g k : Rat} (h : Sz a b A g) (l : Sz c d B k) : Sz (a * c - b * d) (a * d + b * c) (A * B) (g * k) := by
  obtain ⟨h1, h2, h3⟩ := h
  obtain ⟨k1, k2, k3⟩ := l
  refine ⟨Rat.mul_nonneg h1 k1, Rat.mul_nonneg h2 k2, ?_⟩
  have f1 : (a * c - b * d) * (a * c - b * d) + (a * d + b * c) * (a * d + b * c) = (a * a + b * b) * (c * c + d * d) := by grind
  have f3 : 0 ≤ c * c + d * d := by have := sq_nonneg' c; have := sq_nonneg' d; grind
  have f4 := Rat.mul_le_mul_of_nonneg_right h3 f3
  have f5 := Rat.mul_le_mul_of_nonneg_left k3 (Rat.mul_nonneg (Rat.mul_nonneg h1 h1) h2)
  grind
theorem Sz.self (x y : Rat) : Sz x y 1 (x * x + y * y) := by
  have := sq_nonneg' x
  have := sq_nonneg' y
  exact ⟨by grind, by grind, by grind⟩
theorem Sz.zero (A g : Rat) (hA : 0 ≤ A) (hg : 0 ≤ g) : Sz 0 0 A g :=
  ⟨hA, hg, by have := Rat.mul_nonneg (Rat.mul_nonneg hA hA) hg; grind⟩
/-- of a whole scale: each part is small -/
theorem Sz.parts {x y A h : Rat} (s : Sz x y A (h * h)) (hh : 0 ≤ h) : Flo.Ab x (A * h) ∧ Flo.Ab y (A * h) := by
  obtain ⟨h1, h2, h3⟩ := s
  have := sq_nonneg' x
  have := sq_nonneg' y
  have h4 := Rat.mul_nonneg h1 hh
  exact ⟨ab_of_sq h4 (by grind), ab_of_sq h4 (by grind)⟩
theorem Sz.of_parts {x y M A g : Rat} (h1 : Flo.Ab x M) (h2 : Flo.Ab y M) (hA : 0 ≤ A) (hg : 0 ≤ g) (h : 2 * (M * M) ≤ A * A * g) : Sz x y A g := by
  have := sq_of_ab h1
  have := sq_of_ab h2
  exact ⟨hA, hg, by grind⟩
/-- what is left when a tenth at most is taken away -/
theorem sz_lower {a b c d A : Rat} (h : Sz (c - a) (d - b) A (a * a + b * b)) (hA : A ≤ 1 / 8) : (a * a + b * b) / 2 ≤ c * c + d * d := by
  rcases le_tot ((a * a + b * b) / 2) (c * c + d * d) with g | g
  · exact g
  · obtain ⟨h1, h2, h3⟩ := h
    have k : Sz c d (3 / 4) (a * a + b * b) := ⟨by grind, h2, by grind⟩
    have l := k.sub (Sz.mono ⟨h1, h2, h3⟩ hA)
    have m : Sz a b (3 / 4 + 1 / 8) (a * a + b * b) := l.eq (by grind) (by grind)
    have e1 := m.2.2
    have e2 := sq_nonneg' c
    have e3 := sq_nonneg' d
    clear k l m h3
    grind
theorem sz_upper {a b c d A : Rat} (h : Sz (c - a) (d - b) A (a * a + b * b)) : Sz c d (1 + A) (a * a + b * b) :=
  ((Sz.self a b).add h).eq (by grind) (by grind)

/-! ### numbers of double precision -/
def Okz (z : Nat × Nat) : Prop := Flo.Nm z.1 ∧ Flo.Nm z.2 ∧ Wz z
def nz (z : Nat × Nat) : Rat := Flo.W z.1 * Flo.W z.1 + Flo.W z.2 * Flo.W z.2
theorem nz_nonneg (z : Nat × Nat) : 0 ≤ nz z := by
  unfold nz
  have := sq_nonneg' (Flo.W z.1)
  have := sq_nonneg' (Flo.W z.2)
  grind
theorem Okz.fab {z : Nat × Nat} (h : Okz z) : fabC z = (some z.1, some z.2) := by
  unfold fabC
  rw [fab_num h.1, fab_num h.2.1]
/-- the greater part -/
theorem part_of (z : Nat × Nat) (l m : Int) (h1 : Flo.pw l ≤ nz z) (h2 : nz z ≤ Flo.pw m) (a b : Int) (ha : 2 * a + 1 ≤ l) (hb : m ≤ 2 * b) :
    ∃ M, (Flo.pw a ≤ M ∧ M ≤ Flo.pw b) ∧ (ra (Flo.W z.1) = M ∨ ra (Flo.W z.2) = M) ∧ Flo.Ab (Flo.W z.1) M ∧ Flo.Ab (Flo.W z.2) M ∧ M * M ≤ nz z ∧ nz z ≤ 2 * (M * M) := by
  have hsq : ∀ x : Rat, ra x * ra x = x * x := fun x => by rcases ra_or x with e | e <;> rw [e] <;> grind
  have r1 := ra_nonneg (Flo.W z.1)
  have r2 := ra_nonneg (Flo.W z.2)
  have key : ∀ M : Rat, 0 ≤ M → M * M ≤ nz z → nz z ≤ 2 * (M * M) → Flo.pw a ≤ M ∧ M ≤ Flo.pw b := by
    intro M hM g1 g2
    have p1 : Flo.pw a * Flo.pw a ≤ M * M := by
      rw [← Flo.pw_add]
      have e1 : 2 * Flo.pw (a + a) = Flo.pw (a + a + 1) := (Flo.pw_succ _).symm
      have e2 : Flo.pw (a + a + 1) ≤ Flo.pw l := Flo.pw_le (by omega)
      grind
    have p2 : M * M ≤ Flo.pw b * Flo.pw b := by
      rw [← Flo.pw_add]
      have e2 : Flo.pw m ≤ Flo.pw (b + b) := Flo.pw_le (by omega)
      grind
    exact ⟨le_of_sqz hM p1, le_of_sqz (Rat.le_of_lt (Flo.pw_pos b)) p2⟩
  have s1 := hsq (Flo.W z.1)
  have s2 := hsq (Flo.W z.2)
  rcases le_tot (ra (Flo.W z.1)) (ra (Flo.W z.2)) with g | g
  · have q := sq_le_sq r1 g
    have hn : nz z = ra (Flo.W z.1) * ra (Flo.W z.1) + ra (Flo.W z.2) * ra (Flo.W z.2) := by unfold nz; grind
    have q1 := sq_nonneg' (ra (Flo.W z.1))
    refine ⟨ra (Flo.W z.2), key _ r2 (by grind) (by grind), .inr rfl, ?_, ?_, by grind, by grind⟩
    · unfold Flo.Ab; rcases ra_or (Flo.W z.1) with e | e <;> grind
    · unfold Flo.Ab; rcases ra_or (Flo.W z.2) with e | e <;> grind
  · have q := sq_le_sq r2 g
    have hn : nz z = ra (Flo.W z.1) * ra (Flo.W z.1) + ra (Flo.W z.2) * ra (Flo.W z.2) := by unfold nz; grind
    have q1 := sq_nonneg' (ra (Flo.W z.2))
    refine ⟨ra (Flo.W z.1), key _ r1 (by grind) (by grind), .inl rfl, ?_, ?_, by grind, by grind⟩
    · unfold Flo.Ab; rcases ra_or (Flo.W z.1) with e | e <;> grind
    · unfold Flo.Ab; rcases ra_or (Flo.W z.2) with e | e <;> grind

def mulB (x y : Nat × Nat) : Nat × Nat := ((mulC (fabC x) (fabC y)).1.getD 0, (mulC (fabC x) (fabC y)).2.getD 0)
/-- neither far too small nor far too great -/
def Mid (z : Nat × Nat) : Prop := Flo.pw (-400) ≤ nz z ∧ nz z ≤ Flo.pw 400
theorem mulB_sz (x y : Nat × Nat) (hx : Okz x) (hy : Okz y) (mx : Mid x) (my : Mid y) :
    mulC (fabC x) (fabC y) = (some (mulB x y).1, some (mulB x y).2) ∧ Okz (mulB x y) ∧
      Sz (Flo.W (mulB x y).1 - (Flo.W x.1 * Flo.W y.1 - Flo.W x.2 * Flo.W y.2)) (Flo.W (mulB x y).2 - (Flo.W x.1 * Flo.W y.2 + Flo.W x.2 * Flo.W y.1)) (8 * Flo.u) (nz x * nz y) := by
  have u0 := Flo.u_pos
  obtain ⟨M, ⟨m1, m2⟩, -, m3, m4, m5, -⟩ := part_of x _ _ mx.1 mx.2 (-201) 200 (by omega) (by omega)
  obtain ⟨K, ⟨k1, k2⟩, -, k3, k4, k5, -⟩ := part_of y _ _ my.1 my.2 (-201) 200 (by omega) (by omega)
  have M0 : 0 ≤ M := m3.nonneg
  have K0 : 0 ≤ K := k3.nonneg
  have lo : Flo.pw (-500) ≤ M * K := by
    have e1 : Flo.pw (-500) ≤ Flo.pw (-201) * Flo.pw (-201) := by rw [← Flo.pw_add]; exact Flo.pw_le (by omega)
    have e2 := Rat.mul_le_mul_of_nonneg_right m1 (Rat.le_of_lt (Flo.pw_pos (-201)))
    have e3 := Rat.mul_le_mul_of_nonneg_left k1 M0
    grind
  have hi : M * K ≤ Flo.pw 500 := by
    have e1 : Flo.pw 200 * Flo.pw 200 ≤ Flo.pw 500 := by rw [← Flo.pw_add]; exact Flo.pw_le (by omega)
    have e2 := Rat.mul_le_mul_of_nonneg_right m2 K0
    have e3 := Rat.mul_le_mul_of_nonneg_left k2 (Rat.le_of_lt (Flo.pw_pos 200))
    grind
  obtain ⟨z, z1, z2, z3, z4, z5, z6⟩ := mul_box x y hx.1 hx.2.1 hy.1 hy.2.1 M K lo hi m3 m4 k3 k4
  have ez : mulB x y = z := by unfold mulB; rw [z1]; rfl
  rw [ez]
  refine ⟨z1, ⟨z2, z3, z4⟩, Sz.of_parts z5 z6 (by grind) (Rat.mul_nonneg (nz_nonneg x) (nz_nonneg y)) ?_⟩
  have f1 : (M * M) * (K * K) ≤ nz x * nz y := by
    have a1 := Rat.mul_le_mul_of_nonneg_right m5 (sq_nonneg' K)
    have a2 := Rat.mul_le_mul_of_nonneg_left k5 (nz_nonneg x)
    grind
  have f2 := Rat.mul_le_mul_of_nonneg_left f1 (Rat.mul_nonneg (Rat.le_of_lt u0) (Rat.le_of_lt u0))
  have f3 := Rat.mul_nonneg (Rat.mul_nonneg (Rat.le_of_lt u0) (Rat.le_of_lt u0)) (Rat.mul_nonneg (sq_nonneg' M) (sq_nonneg' K))
  grind

end Go.Proofs.Ytlhhcchncobmhaa
