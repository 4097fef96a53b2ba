/- Plain: of two sums of powers, four numbers tell the sum and the product of the bases, in whole numbers.
   Conditions: those that each statement names. -/
import Derived.Test.YtlhhcchncobmhaaDy
namespace Go.Proofs.Ytlhhcchncobmhaa
set_option linter.unusedSimpArgs false
set_option linter.unusedVariables false

def gmz (x y : Int × Int) : Int × Int := (x.1 * y.1 - x.2 * y.2, x.1 * y.2 + x.2 * y.1)
def ga (x y : Int × Int) : Int × Int := (x.1 + y.1, x.2 + y.2)
def gs (x y : Int × Int) : Int × Int := (x.1 - y.1, x.2 - y.2)
def zK (a b p q : Int × Int) : Nat → Int × Int
  | 0 => ga a b
  | 1 => ga (gmz a p) (gmz b q)
  | 2 => ga (gmz (gmz a p) p) (gmz (gmz b q) q)
  | _ => ga (gmz (gmz (gmz a p) p) p) (gmz (gmz (gmz b q) q) q)
def dK (a b p q : Int × Int) : Int × Int := gs (gmz (zK a b p q 1) (zK a b p q 1)) (gmz (zK a b p q 0) (zK a b p q 2))
def sK (a b p q : Int × Int) : Int × Int := gs (gmz (zK a b p q 1) (zK a b p q 2)) (gmz (zK a b p q 0) (zK a b p q 3))
def tK (a b p q : Int × Int) : Int × Int := gs (gmz (zK a b p q 2) (zK a b p q 2)) (gmz (zK a b p q 1) (zK a b p q 3))
theorem sK_eq (a b p q : Int × Int) : sK a b p q = gmz (dK a b p q) (ga p q) := by
  obtain ⟨a1, a2⟩ := a; obtain ⟨b1, b2⟩ := b; obtain ⟨p1, p2⟩ := p; obtain ⟨q1, q2⟩ := q
  simp only [sK, dK, zK, gmz, ga, gs, Prod.mk.injEq]
  constructor <;> grind
theorem tK_eq (a b p q : Int × Int) : tK a b p q = gmz (dK a b p q) (gmz p q) := by
  obtain ⟨a1, a2⟩ := a; obtain ⟨b1, b2⟩ := b; obtain ⟨p1, p2⟩ := p; obtain ⟨q1, q2⟩ := q
  simp only [tK, dK, zK, gmz, ga, gs, Prod.mk.injEq]
  constructor <;> grind
theorem dK_eq (a b p q : Int × Int) : dK a b p q = gs (0, 0) (gmz (gmz a b) (gmz (gs p q) (gs p q))) := by
  obtain ⟨a1, a2⟩ := a; obtain ⟨b1, b2⟩ := b; obtain ⟨p1, p2⟩ := p; obtain ⟨q1, q2⟩ := q
  simp only [dK, zK, gmz, ga, gs, Prod.mk.injEq]
  constructor <;> grind
theorem gm_zero {x y : Int × Int} (h : gmz x y = (0, 0)) : x = (0, 0) ∨ y = (0, 0) := by
  obtain ⟨a, b⟩ := x; obtain ⟨c, d⟩ := y
  simp only [gmz, Prod.mk.injEq] at h ⊢
  obtain ⟨h1, h2⟩ := h
  have hn : (a * a + b * b) * (c * c + d * d) = 0 := by
    have : (a * a + b * b) * (c * c + d * d) = (a * c - b * d) * (a * c - b * d) + (a * d + b * c) * (a * d + b * c) := by grind
    rw [this, h1, h2]; rfl
  have sq : ∀ x y : Int, x * x + y * y = 0 → x = 0 ∧ y = 0 := by
    intro x y h
    have hx : 0 ≤ x * x := by rcases Int.le_total 0 x with g | g; exact Int.mul_nonneg g g; exact Int.mul_nonneg_of_nonpos_of_nonpos g g
    have hy : 0 ≤ y * y := by rcases Int.le_total 0 y with g | g; exact Int.mul_nonneg g g; exact Int.mul_nonneg_of_nonpos_of_nonpos g g
    have h1 : x * x = 0 := by omega
    have h2 : y * y = 0 := by omega
    exact ⟨by rcases Int.mul_eq_zero.1 h1 with h | h <;> exact h, by rcases Int.mul_eq_zero.1 h2 with h | h <;> exact h⟩
  rcases Int.mul_eq_zero.1 hn with h | h
  · exact .inl (sq _ _ h)
  · exact .inr (sq _ _ h)
theorem dK_ne (a b p q : Int × Int) (ha : a ≠ (0, 0)) (hb : b ≠ (0, 0)) (hpq : p ≠ q) : dK a b p q ≠ (0, 0) := by
  rw [dK_eq]
  intro h
  have h' : gmz (gmz a b) (gmz (gs p q) (gs p q)) = (0, 0) := by
    generalize gmz (gmz a b) (gmz (gs p q) (gs p q)) = X at h ⊢
    simp only [gs, Prod.mk.injEq] at h
    obtain ⟨h1, h2⟩ := h
    exact Prod.ext (by show _ = (0 : Int); omega) (by show _ = (0 : Int); omega)
  have hd : gs p q ≠ (0, 0) := by
    intro e
    simp only [gs, Prod.mk.injEq] at e
    exact hpq (Prod.ext (by omega) (by omega))
  rcases gm_zero h' with h | h
  · rcases gm_zero h with h | h
    · exact ha h
    · exact hb h
  · rcases gm_zero h with h | h <;> exact hd h
theorem gm_le (x y : Int × Int) (B C : Nat) (h1 : x.1.natAbs ≤ B ∧ x.2.natAbs ≤ B) (h2 : y.1.natAbs ≤ C ∧ y.2.natAbs ≤ C) : (gmz x y).1.natAbs ≤ 2 * (B * C) ∧ (gmz x y).2.natAbs ≤ 2 * (B * C) ∧ (x.1 * y.1).natAbs ≤ B * C ∧ (x.2 * y.2).natAbs ≤ B * C ∧ (x.1 * y.2).natAbs ≤ B * C ∧ (x.2 * y.1).natAbs ≤ B * C := by
  have e : ∀ a b : Int, a.natAbs ≤ B → b.natAbs ≤ C → (a * b).natAbs ≤ B * C := fun a b p q => by rw [Int.natAbs_mul]; exact Nat.mul_le_mul p q
  have e1 := e _ _ h1.1 h2.1
  have e2 := e _ _ h1.2 h2.2
  have e3 := e _ _ h1.1 h2.2
  have e4 := e _ _ h1.2 h2.1
  unfold gmz
  refine ⟨?_, ?_, e1, e2, e3, e4⟩ <;> simp only <;> omega

end Go.Proofs.Ytlhhcchncobmhaa
