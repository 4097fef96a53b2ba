/- Plain: the integer that a number is cut to, of either sign.
   Conditions: those that each statement names. -/
import Derived.Test.YtlhhcchncobmhaaPair
import Derived.Laws.FloatArith
namespace Go.Proofs.Ytlhhcchncobmhaa
set_option linter.unusedSimpArgs false
set_option linter.unusedVariables false
open Go Go.RowKit

namespace Flo
open Ieee
theorem cut_any (x m : Nat) (s : Bool) (p : Int) (h : Ieee.double.read x = .number s m p) (hB : (m : Rat) * pw p < 1000) :
    ∃ iv : Nat, floatToIntVal .f64 x .i64 = some (if s then -(iv : Int) else (iv : Int)) ∧ (iv : Rat) ≤ (m : Rat) * pw p := by
  have key : ∃ iv : Nat, (Ieee.Datum.number s m p).toInt .zero = some (if s then -(iv : Int) else (iv : Int)) ∧ (iv : Rat) ≤ (m : Rat) * pw p := by
    by_cases hp : 0 ≤ p
    · obtain ⟨q, rfl⟩ := Int.eq_ofNat_of_zero_le hp
      refine ⟨m * 2 ^ q, ?_, ?_⟩
      · unfold Datum.toInt Datum.integral Toward.cut
        cases s <;> simp [Ieee.signed, Nat.shiftLeft_eq]
      · rw [pw_nat]; push_cast; exact Rat.le_refl
    · obtain ⟨q, hq⟩ := Int.eq_ofNat_of_zero_le (show 0 ≤ -p by omega)
      have hpq : p = -(q : Int) := by omega
      subst hpq
      have hq0 : 0 < 2 ^ q := Nat.two_pow_pos q
      have hdiv : m / (1 <<< min q (m.log2 + 2)) = m / 2 ^ q := by
        rw [Nat.one_shiftLeft]
        by_cases hle : q ≤ m.log2 + 2
        · rw [Nat.min_eq_left hle]
        · rw [Nat.min_eq_right (by omega)]
          have l1 : m < 2 ^ (m.log2 + 2) := Nat.lt_of_lt_of_le Nat.lt_log2_self (Nat.pow_le_pow_right (by decide) (by omega))
          have l2 : m < 2 ^ q := Nat.lt_of_lt_of_le l1 (Nat.pow_le_pow_right (by decide) (by omega))
          rw [Nat.div_eq_of_lt l1, Nat.div_eq_of_lt l2]
      refine ⟨m / 2 ^ q, ?_, ?_⟩
      · unfold Datum.toInt Datum.integral Toward.cut
        have e1 : (-(q : Int)).toNat = 0 := by omega
        have e2 : (- -(q : Int)).toNat = q := by omega
        simp only [e1, e2, Nat.shiftLeft_zero, Bool.toNat_false, Nat.add_zero, hdiv, Ieee.signed]
      · have e := Nat.div_add_mod m (2 ^ q)
        have hpp := pw_pos (-(q : Int))
        have hm := pw_neg_mul (q : Int)
        rw [pw_nat] at hm
        have ec : (m : Rat) = ((2 ^ q : Nat) : Rat) * ((m / 2 ^ q : Nat) : Rat) + ((m % 2 ^ q : Nat) : Rat) := by
          have : ((2 ^ q * (m / 2 ^ q) + m % 2 ^ q : Nat) : Rat) = (m : Rat) := by rw [e]
          rw [← this]; push_cast; rfl
        have r0 : (0 : Rat) ≤ ((m % 2 ^ q : Nat) : Rat) := by exact_mod_cast Nat.zero_le _
        generalize ((2 ^ q : Nat) : Rat) = T at *
        generalize ((m / 2 ^ q : Nat) : Rat) = D at *
        generalize ((m % 2 ^ q : Nat) : Rat) = R at *
        generalize Flo.pw (-(q : Int)) = Q at *
        have e3 : T * D * Q = D := by
          rw [show T * D * Q = D * (Q * T) by grind, hm]; grind
        have e4 : (m : Rat) * Q = D + R * Q := by rw [ec, Rat.add_mul, e3]
        have k := Rat.mul_nonneg r0 (Rat.le_of_lt hpp)
        rw [e4]; grind
  obtain ⟨iv, k1, k2⟩ := key
  refine ⟨iv, ?_, k2⟩
  unfold floatToIntVal
  rw [show FloatKind.f64.decode x = _ from h, k1]
  have hlt : (iv : Rat) < 1000 := by grind
  have hn : iv < 1000 := by exact_mod_cast hlt
  have h1 : IntKind.i64.min = -9223372036854775808 := by decide
  have h2 : IntKind.i64.max = 9223372036854775807 := by decide
  simp only [h1, h2]
  rw [if_pos (by cases s <;> simp <;> omega)]

/-- a number below 17 is cut to at most 16 -/
theorem cut_17 (x : Nat) (hx : Nm x) (hB : Ab (W x) (67 / 4)) : ∃ i : Int, floatToIntVal .f64 x .i64 = some i ∧ i.natAbs ≤ 16 := by
  obtain ⟨s, m, p, h⟩ := hx
  have hv : W x = val s m p := V_eq h
  have hp := pw_pos p
  have hm : (0 : Rat) ≤ (m : Rat) * pw p := Rat.mul_nonneg (by exact_mod_cast Nat.zero_le m) (Rat.le_of_lt hp)
  have hlt : (m : Rat) * pw p ≤ 67 / 4 := by
    unfold Ab at hB
    rw [hv] at hB
    unfold val at hB
    cases s <;> simp at hB <;> grind
  obtain ⟨iv, h1, h2⟩ := cut_any x m s p h (by grind)
  have h3 : iv ≤ 16 := by
    have : (iv : Rat) < 17 := by grind
    have : iv < 17 := by exact_mod_cast this
    omega
  exact ⟨_, h1, by cases s <;> simp <;> omega⟩
end Flo

end Go.Proofs.Ytlhhcchncobmhaa
