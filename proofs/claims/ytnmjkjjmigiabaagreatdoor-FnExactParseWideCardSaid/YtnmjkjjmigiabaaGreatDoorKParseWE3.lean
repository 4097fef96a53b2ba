/- Texts of a proof, put together: Bits, Inj.
   Conditions: those that each statement names. -/
import Derived.Test.YtnmjkjjmigiabaaGreatDoorKParseWE2
/- Plain: the bits of a number of double precision, taken apart and put together; odd parts.
   Conditions: those that each statement names. -/
namespace Go.Proofs.YtnmjkjjmigiabaaGreatDoor
set_option linter.unusedSimpArgs false
set_option linter.unusedVariables false
open Go Go.RowKit

theorem read_sub (s x : Nat) (hs : s < 2) (hx : x < 4503599627370496) : Ieee.double.read (s * 9223372036854775808 + x) = .number (s == 1) x (-1074) := by
  unfold Ieee.Format.read
  simp only [show Ieee.double.signWeight = 9223372036854775808 from by decide, show Ieee.double.binade = 4503599627370496 from by decide]
  have h1 : (s * 9223372036854775808 + x) % 9223372036854775808 = x := by omega
  have h2 : (s * 9223372036854775808 + x) / 9223372036854775808 % 2 = s := by omega
  rw [h1, h2]
  rw [if_pos hx]
  rfl
theorem read_nor (s E F : Nat) (hs : s < 2) (h1 : 1 ≤ E) (h2 : E < 2047) (hF : F < 4503599627370496) : Ieee.double.read (s * 9223372036854775808 + (E * 4503599627370496 + F)) = .number (s == 1) (4503599627370496 + F) ((E : Int) - 1075) := by
  have hE : (-1074 : Int) + ((E - 1 : Nat) : Int) = (E : Int) - 1075 := by omega
  unfold Ieee.Format.read
  simp only [show Ieee.double.signWeight = 9223372036854775808 from by decide, show Ieee.double.binade = 4503599627370496 from by decide]
  have h5 : (E * 4503599627370496 + F) / 4503599627370496 = E := by omega
  have h6 : (E * 4503599627370496 + F) % 4503599627370496 = F := by omega
  have h3 : (s * 9223372036854775808 + (E * 4503599627370496 + F)) % 9223372036854775808 = E * 4503599627370496 + F := by clear h5 h6; omega
  have h4 : (s * 9223372036854775808 + (E * 4503599627370496 + F)) / 9223372036854775808 % 2 = s := by clear h3 h5 h6; omega
  rw [h3, h4, h5, h6]
  rw [if_neg (by omega), if_pos (by rw [show Ieee.double.infRung = 9218868437227405312 from by decide]; omega)]
  rw [show Ieee.double.leastPlace = -1074 from by decide]
  rw [hE]

/-- the words of numbers -/
theorem word_cases (x m : Nat) (sg : Bool) (p : Int) (hx : x < 18446744073709551616) (h : Ieee.double.read x = .number sg m p) :
    ∃ s, s < 2 ∧ sg = (s == 1) ∧ ((x = s * 9223372036854775808 + m ∧ m < 4503599627370496 ∧ p = -1074) ∨ (∃ E F : Nat, x = s * 9223372036854775808 + (E * 4503599627370496 + F) ∧ 1 ≤ E ∧ E < 2047 ∧ F < 4503599627370496 ∧ m = 4503599627370496 + F ∧ p = (E : Int) - 1075)) := by
  have e0 : x = x / 9223372036854775808 * 9223372036854775808 + x % 9223372036854775808 := by omega
  have hs : x / 9223372036854775808 < 2 := by omega
  generalize x / 9223372036854775808 = s at e0 hs
  have hr : x % 9223372036854775808 < 9223372036854775808 := by omega
  generalize x % 9223372036854775808 = r at e0 hr
  subst e0
  refine ⟨s, hs, ?_⟩
  by_cases hsub : r < 4503599627370496
  · rw [read_sub s r hs hsub] at h
    injection h with h0 h1 h2
    subst h1
    exact ⟨h0.symm, .inl ⟨rfl, hsub, h2.symm⟩⟩
  · have hfin : r < 9218868437227405312 := by
      rcases Nat.lt_or_ge r 9218868437227405312 with g | g
      · exact g
      · exfalso
        have h1 : (s * 9223372036854775808 + r) % 9223372036854775808 = r := by omega
        unfold Ieee.Format.read at h
        simp only [show Ieee.double.signWeight = 9223372036854775808 from by decide, show Ieee.double.infRung = 9218868437227405312 from by decide, show Ieee.double.binade = 4503599627370496 from by decide, h1] at h
        rw [if_neg (by omega), if_neg (by omega)] at h
        split at h <;> simp at h
    have e : r = r / 4503599627370496 * 4503599627370496 + r % 4503599627370496 := by omega
    have k := read_nor s (r / 4503599627370496) (r % 4503599627370496) hs (by omega) (by omega) (by omega)
    rw [← e, h] at k
    injection k with k0 k1 k2
    exact ⟨k0, .inr ⟨_, _, by rw [← e], by omega, by omega, by omega, k1, k2⟩⟩

theorem clr (x : Nat) (hx : x < 18446744073709551616) : bits .andNot .u64 (x : Int) 9218868437227405312 = ((x / 9223372036854775808 * 9223372036854775808 + x % 4503599627370496 : Nat) : Int) := by
  have e := u64_andNot_nat x 9218868437227405312 hx (by decide)
  rw [show ((9218868437227405312 : Nat) : Int) = 9218868437227405312 from rfl] at e
  rw [e]
  have j : (18446744073709551615 - 9218868437227405312 : Nat) = 9223372036854775808 ||| 4503599627370495 := by decide
  rw [j, Nat.and_or_distrib_left, nat_hi64_63, nat_mask52, Nat.mod_eq_of_lt hx]
  rw [nat_join52 _ _ (by omega) (by omega)]
theorem put (s F N : Nat) (hs : s < 2) (hF : F < 4503599627370496) (hN : N < 2048) : bits .or .u64 ((s * 9223372036854775808 + F : Nat) : Int) ((N * 4503599627370496 : Nat) : Int) = ((s * 9223372036854775808 + (N * 4503599627370496 + F) : Nat) : Int) := by
  rw [u64_or_nat _ _ (by omega) (by omega)]
  have j1 : s * 9223372036854775808 + F = (s * 9223372036854775808) ||| F := (nat_join52 _ _ (by omega) hF).symm
  rw [j1, Nat.or_assoc, nat_join52' _ _ (by omega) hF, nat_join63 _ _ (by omega) (by omega)]

/-- odd parts are unique -/
theorem odd_unique (a b : Nat) (q r : Int) (ha : a % 2 = 1) (hb : b % 2 = 1) (h : (a : Rat) * Flo.pw q = (b : Rat) * Flo.pw r) : a = b ∧ q = r := by
  have key : ∀ (a b : Nat) (q r : Int), a % 2 = 1 → b % 2 = 1 → (a : Rat) * Flo.pw q = (b : Rat) * Flo.pw r → q ≤ r → a = b ∧ q = r := by
    intro a b q r ha hb h hle
    obtain ⟨d, hd⟩ := Int.eq_ofNat_of_zero_le (show 0 ≤ r - q by omega)
    have e : r = q + (d : Int) := by omega
    rw [e, Flo.pw_add, Flo.pw_nat] at h
    have p0 := Flo.pw_pos q
    have h2 : (a : Rat) = (b : Rat) * ((2 ^ d : Nat) : Rat) := by
      have := Rat.mul_inv_cancel (Flo.pw q) (by grind)
      have k : (a : Rat) * Flo.pw q * (Flo.pw q)⁻¹ = (b : Rat) * (Flo.pw q * ((2 ^ d : Nat) : Rat)) * (Flo.pw q)⁻¹ := by rw [h]
      grind
    have h3 : a = b * 2 ^ d := by exact_mod_cast h2
    cases d with
    | zero => exact ⟨by rw [h3]; simp, by omega⟩
    | succ d =>
      exfalso
      rw [Nat.pow_succ, ← Nat.mul_assoc] at h3
      omega
  rcases Int.le_total q r with g | g
  · exact key a b q r ha hb h g
  · obtain ⟨k1, k2⟩ := key b a r q hb ha h.symm g
    exact ⟨k1.symm, k2.symm⟩

theorem log_double (x : Nat) : ∃ p, Flo.pw p = (2 : Rat) ^ x := ⟨x, by rw [Flo.pw_nat]; push_cast; rfl⟩

end Go.Proofs.YtnmjkjjmigiabaaGreatDoor

/- Plain facts: of two numbers in a format's words that are equal, and have one sign, the words are the same; what is the same in single precision.
   Conditions: those that each statement names. No program stands in it. -/
namespace Go.Proofs.YtnmjkjjmigiabaaGreatDoor
set_option linter.unusedSimpArgs false
set_option linter.unusedVariables false
open Go

namespace Flo
open Ieee
/-- the size of a rung, in units of the least place -/
def rungV (B r : Nat) : Nat := if r < B then r else (B + r % B) * 2 ^ (r / B - 1)
theorem rungV_succ (B r : Nat) (hB : 0 < B) : rungV B r < rungV B (r + 1) := by
  unfold rungV
  by_cases h : r + 1 < B
  · rw [if_pos h, if_pos (by omega)]; omega
  · rw [if_neg h]
    by_cases h1 : r < B
    · have e : r + 1 = B := by omega
      rw [if_pos h1, e, Nat.mod_self, Nat.div_self hB]
      simp; omega
    · rw [if_neg h1]
      have hd : 1 ≤ r / B := (Nat.le_div_iff_mul_le hB).2 (by omega)
      by_cases h2 : r % B + 1 < B
      · have e1 : (r + 1) % B = r % B + 1 := by rw [Nat.add_mod, Nat.mod_eq_of_lt (show 1 < B by omega)]; exact Nat.mod_eq_of_lt h2
        have e2 : (r + 1) / B = r / B := by
          have a := Nat.div_add_mod r B
          rw [show r + 1 = B * (r / B) + (r % B + 1) from by omega, Nat.mul_add_div hB, Nat.div_eq_of_lt h2]; omega
        rw [e1, e2]
        exact Nat.mul_lt_mul_of_pos_right (by omega) (Nat.two_pow_pos _)
      · have hlt := Nat.mod_lt r hB
        have e0 : r + 1 = B * (r / B + 1) := by have a := Nat.div_add_mod r B; rw [Nat.mul_add]; omega
        have e1 : (r + 1) % B = 0 := by rw [e0]; exact Nat.mul_mod_right _ _
        have e2 : (r + 1) / B = r / B + 1 := by rw [e0]; exact Nat.mul_div_cancel_left _ hB
        rw [e1, e2]
        have e3 : r / B + 1 - 1 = (r / B - 1) + 1 := by omega
        rw [e3, Nat.pow_succ, Nat.mul_comm (2 ^ _) 2, ← Nat.mul_assoc]
        exact Nat.mul_lt_mul_of_pos_right (by omega) (Nat.two_pow_pos _)
theorem rungV_lt (B : Nat) (hB : 0 < B) : ∀ (d r : Nat), rungV B r < rungV B (r + d + 1)
  | 0, r => rungV_succ B r hB
  | d + 1, r => Nat.lt_trans (rungV_lt B hB d r) (rungV_succ B (r + d + 1) hB)
theorem rungV_inj (B : Nat) (hB : 0 < B) {r s : Nat} (h : rungV B r = rungV B s) : r = s := by
  rcases Nat.lt_trichotomy r s with h1 | h1 | h1
  · have := rungV_lt B hB (s - r - 1) r
    rw [show r + (s - r - 1) + 1 = s by omega] at this; omega
  · exact h1
  · have := rungV_lt B hB (r - s - 1) s
    rw [show s + (r - s - 1) + 1 = r by omega] at this; omega

theorem read_rung (f : Format) {b : Nat} {s : Bool} {m : Nat} {p : Int} (h : f.read b = .number s m p) :
    (b / f.signWeight % 2 == 1) = s ∧ (m : Rat) * pw p = (rungV f.binade (b % f.signWeight) : Rat) * pw f.leastPlace := by
  unfold Format.read at h
  simp only at h
  split at h
  · rename_i h1
    injection h with h2 h3 h4
    subst h3; subst h4
    exact ⟨h2, by unfold rungV; rw [if_pos h1]⟩
  · rename_i h1
    split at h
    · rename_i h5
      injection h with h2 h3 h4
      subst h3; subst h4
      refine ⟨h2, ?_⟩
      unfold rungV
      rw [if_neg h1, Int.add_comm, pw_add, pw_nat]
      push_cast
      grind
    · split at h <;> cases h

/-- NUMBERS THAT ARE EQUAL AND HAVE ONE SIGN ARE ONE WORD -/
theorem read_inj (f : Format) {a b : Nat} {s : Bool} {m n : Nat} {p q : Int} (ha : f.read a = .number s m p) (hb : f.read b = .number s n q) (hal : a < 2 * f.signWeight) (hbl : b < 2 * f.signWeight) (h : (m : Rat) * pw p = (n : Rat) * pw q) : a = b := by
  obtain ⟨a1, a2⟩ := read_rung f ha
  obtain ⟨b1, b2⟩ := read_rung f hb
  rw [a2, b2] at h
  have hp := pw_pos f.leastPlace
  have h2 : (rungV f.binade (a % f.signWeight) : Rat) = (rungV f.binade (b % f.signWeight) : Rat) := by
    have h3 : ((rungV f.binade (a % f.signWeight) : Rat) - (rungV f.binade (b % f.signWeight) : Rat)) * pw f.leastPlace = 0 := by grind
    rcases Rat.mul_eq_zero.1 h3 with h4 | h4
    · grind
    · grind
  have h4 := rungV_inj f.binade (bin_pos f) (Rat.natCast_inj.1 h2)
  have hs := sw_pos f
  have e1 := Nat.div_add_mod a f.signWeight
  have e2 := Nat.div_add_mod b f.signWeight
  have l1 : a / f.signWeight < 2 := (Nat.div_lt_iff_lt_mul hs).2 hal
  have l2 : b / f.signWeight < 2 := (Nat.div_lt_iff_lt_mul hs).2 hbl
  have e3 : a / f.signWeight = b / f.signWeight := by
    rw [← b1] at a1
    have g1 : a / f.signWeight % 2 = a / f.signWeight := Nat.mod_eq_of_lt l1
    have g2 : b / f.signWeight % 2 = b / f.signWeight := Nat.mod_eq_of_lt l2
    rw [g1, g2] at a1
    have : (a / f.signWeight = 1) ↔ (b / f.signWeight = 1) := by rw [← beq_iff_eq (a := a / f.signWeight), a1, beq_iff_eq]
    omega
  rw [← e1, ← e2, e3, h4]
theorem inf_word (f : Format) {b : Nat} {s : Bool} (h : f.read b = .infinity s) (hb : b < 2 * f.signWeight) : b = f.word s f.infRung := by
  have hs := sw_pos f
  have e1 := Nat.div_add_mod b f.signWeight
  have l1 : b / f.signWeight < 2 := (Nat.div_lt_iff_lt_mul hs).2 hb
  have g1 : b / f.signWeight % 2 = b / f.signWeight := Nat.mod_eq_of_lt l1
  unfold Format.read at h
  simp only at h
  split at h
  · cases h
  · split at h
    · cases h
    · split at h
      · rename_i h1
        injection h with h2
        rw [g1] at h2
        unfold Format.word
        cases s with
        | true =>
          have : b / f.signWeight = 1 := by simpa using h2
          rw [this] at e1; simp; omega
        | false =>
          have : ¬ b / f.signWeight = 1 := by simpa using h2
          have : b / f.signWeight = 0 := by omega
          rw [this] at e1; simp; omega
      · cases h
theorem same_sign {s t : Bool} {m n : Nat} {p q : Int} (h : val s m p = val t n q) (h0 : val s m p ≠ 0) : s = t ∧ (m : Rat) * pw p = (n : Rat) * pw q := by
  have a := Rat.mul_nonneg (show (0 : Rat) ≤ m by exact_mod_cast Nat.zero_le m) (Rat.le_of_lt (pw_pos p))
  have b := Rat.mul_nonneg (show (0 : Rat) ≤ n by exact_mod_cast Nat.zero_le n) (Rat.le_of_lt (pw_pos q))
  unfold val at h h0
  cases s <;> cases t <;> simp at h h0 ⊢ <;> grind
theorem val_zero_mag {s : Bool} {m : Nat} {p : Int} (h : val s m p = 0) : (m : Rat) * pw p = 0 := by
  unfold val at h
  cases s <;> simp at h ⊢ <;> grind
end Flo

theorem one_over_zero {z : Nat} {s : Bool} {p : Int} (h : Ieee.double.read z = .number s 0 p) : (Ieee.double.order ((floatBits .quo .f64 4607182418800017408 z).getD 0) 0 == some .gt) = !s := by
  have h1 : Ieee.double.read 4607182418800017408 = .number false 4503599627370496 (-52) := by decide
  have h2 : floatBits .quo .f64 4607182418800017408 z = some (Ieee.double.word s Ieee.double.infRung) := by
    show Ieee.double.div 4607182418800017408 z = _
    unfold Ieee.Format.div
    rw [h1, h]
    cases s <;> simp [Ieee.Datum.quotient, Ieee.Format.write]
  rw [h2]
  cases s <;> decide

/-- two of single precision are the same: one word, or both NaN -/
def sameX (x y : Nat) : Bool := x == y || (nan32 x && nan32 y)
theorem sameX_wide {x y : Nat} (hx : nan32 x = false) (hy : nan32 y = false) (lx : x < 2 ^ 32) (ly : y < 2 ^ 32) : sameF (wid x) (wid y) = sameX x y := by
  have esw : 2 * Ieee.single.signWeight = 2 ^ 32 := by decide
  unfold sameX
  rw [hx, hy]
  simp only [Bool.and_self, Bool.or_false]
  by_cases hxy : x = y
  · subst hxy; rw [sameF_self]; simp
  · rw [show (x == y) = false from by simpa using hxy]
    unfold sameF
    rw [wid_nan hx, wid_nan hy]
    simp only [Bool.or_self, Bool.false_eq_true, if_false]
    rw [show FloatKind.f64.format = Ieee.double from rfl]
    cases h1 : Ieee.single.read x with
    | nan s f => unfold nan32 at hx; rw [show FloatKind.f32.decode x = _ from h1] at hx; cases hx
    | infinity s =>
      have k1 := wid_inf h1
      have hz : Ieee.double.read 0 = .number false 0 (-1074) := by decide
      have o1 : (Ieee.double.order (wid x) 0 == some .eq) = false := by unfold Ieee.Format.order; rw [k1, hz]; cases s <;> rfl
      rw [o1]
      simp only [Bool.false_and, Bool.false_eq_true, if_false]
      cases h2 : Ieee.single.read y with
      | nan s f => unfold nan32 at hy; rw [show FloatKind.f32.decode y = _ from h2] at hy; cases hy
      | infinity t =>
        have hst : s ≠ t := by
          intro e; subst e
          exact hxy ((Flo.inf_word _ h1 (by omega)).trans (Flo.inf_word _ h2 (by omega)).symm)
        unfold Ieee.Format.order; rw [k1, wid_inf h2]
        cases s <;> cases t <;> first | (exfalso; exact hst rfl) | rfl
      | number t n j =>
        obtain ⟨m', p', k2, -⟩ := wid_read h2
        unfold Ieee.Format.order; rw [k1, k2]; cases s <;> rfl
    | number s m i =>
      obtain ⟨m', i', k1, e1⟩ := wid_read h1
      cases h2 : Ieee.single.read y with
      | nan s f => unfold nan32 at hy; rw [show FloatKind.f32.decode y = _ from h2] at hy; cases hy
      | infinity t =>
        have k2 := wid_inf h2
        have hz : Ieee.double.read 0 = .number false 0 (-1074) := by decide
        have o1 : (Ieee.double.order (wid y) 0 == some .eq) = false := by unfold Ieee.Format.order; rw [k2, hz]; cases t <;> rfl
        rw [o1]
        simp only [Bool.and_false, Bool.false_eq_true, if_false]
        unfold Ieee.Format.order; rw [k1, k2]; cases t <;> rfl
      | number t n j =>
        obtain ⟨n', j', k2, e2⟩ := wid_read h2
        have ox := Flo.order_num Ieee.double (wid x) 0 ⟨_, _, _, k1⟩ zero_num.1
        have oy := Flo.order_num Ieee.double (wid y) 0 ⟨_, _, _, k2⟩ zero_num.1
        have o := Flo.order_num Ieee.double (wid x) (wid y) ⟨_, _, _, k1⟩ ⟨_, _, _, k2⟩
        rw [show Flo.V Ieee.double 0 = 0 from zero_num.2, Flo.V_eq k1] at ox
        rw [show Flo.V Ieee.double 0 = 0 from zero_num.2, Flo.V_eq k2] at oy
        rw [Flo.V_eq k1, Flo.V_eq k2] at o
        have hinj : s = t → (m' : Rat) * Flo.pw i' = (n' : Rat) * Flo.pw j' → False := by
          intro es ev
          subst es
          exact hxy (Flo.read_inj _ h1 h2 (by omega) (by omega) (by rw [← e1, ← e2]; exact ev))
        split
        · rename_i hz
          simp only [Bool.and_eq_true, beq_iff_eq] at hz
          have z1 := Flo.val_zero_mag (ox.2.1.1 hz.1)
          have z2 := Flo.val_zero_mag (oy.2.1.1 hz.2)
          have m0 : m' = 0 := by
            rcases Rat.mul_eq_zero.1 z1 with h | h
            · exact_mod_cast h
            · have := Flo.pw_pos i'; grind
          have n0 : n' = 0 := by
            rcases Rat.mul_eq_zero.1 z2 with h | h
            · exact_mod_cast h
            · have := Flo.pw_pos j'; grind
          subst m0; subst n0
          rw [one_over_zero k1, one_over_zero k2]
          cases s <;> cases t <;> first | rfl | (exfalso; exact hinj rfl (by rw [z1, z2]))
        · rename_i hz
          cases ho : (Ieee.double.order (wid x) (wid y) == some .eq) with
          | false => rfl
          | true =>
            exfalso
            have ev := o.2.1.1 (by simpa using ho)
            by_cases h0 : Flo.val s m' i' = 0
            · apply hz
              rw [ox.2.1.2 h0, oy.2.1.2 (by rw [← ev]; exact h0)]; rfl
            · obtain ⟨q1, q2⟩ := Flo.same_sign ev h0
              exact hinj q1 q2
theorem sameX_any {x y : Nat} (lx : x < 2 ^ 32) (ly : y < 2 ^ 32) (w1 w2 : World) : sameF (fcv w1 .f32 x .f64) (fcv w2 .f32 y .f64) = sameX x y := by
  cases hx : nan32 x with
  | true =>
    have h1 := nan_wide hx w1
    cases hy : nan32 y with
    | true =>
      have h2 := nan_wide hy w2
      unfold sameF sameX; rw [h1, h2, hx, hy]; simp
    | false =>
      have h2 := wid_nan hy
      rw [fcv_wide hy]
      unfold sameF sameX; rw [h1, h2, hx, hy]
      have : x ≠ y := by intro e; subst e; rw [hx] at hy; cases hy
      simp [this]
  | false =>
    cases hy : nan32 y with
    | true =>
      have h1 := wid_nan hx
      have h2 := nan_wide hy w2
      rw [fcv_wide hx]
      unfold sameF sameX; rw [h1, h2, hx, hy]
      have : x ≠ y := by intro e; subst e; rw [hx] at hy; cases hy
      simp [this]
    | false => rw [fcv_wide hx, fcv_wide hy, sameX_wide hx hy lx ly]
theorem sameX_self (x : Nat) : sameX x x = true := by unfold sameX; simp

end Go.Proofs.YtnmjkjjmigiabaaGreatDoor
