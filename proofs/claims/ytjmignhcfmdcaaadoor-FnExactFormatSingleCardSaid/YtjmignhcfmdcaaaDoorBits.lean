/- Plain: the bits of a number of double precision, taken apart and put together; odd parts.
   Conditions: those that each statement names. -/
import Derived.Test.YtjmignhcfmdcaaaDoorParts
import Derived.Test.YtjmignhcfmdcaaaDoorDy
namespace Go.Proofs.YtjmignhcfmdcaaaDoor
set_option linter.unusedSimpArgs false
set_option linter.unusedVariables false
open Go Go.RowKit

theorem read_sub (s x : Nat) (hs : s < 2) (hx : x < 4503599627370496) : Ieee.double.read (s * 9223372036854775808 + x) = .number (s == 1) x (-1074) := by
  unfold Ieee.Format.read
  simp only [show Ieee.double.signWeight = 9223372036854775808 from by decide, show Ieee.double.binade = 4503599627370496 from by decide]
  have h1 : (s * 9223372036854775808 + x) % 9223372036854775808 = x := by omega
  have h2 : (s * 9223372036854775808 + x) / 9223372036854775808 % 2 = s := by omega
  rw [h1, h2]
  rw [if_pos hx]
  rfl
theorem read_nor (s E F : Nat) (hs : s < 2) (h1 : 1 ≤ E) (h2 : E < 2047) (hF : F < 4503599627370496) : Ieee.double.read (s * 9223372036854775808 + (E * 4503599627370496 + F)) = .number (s == 1) (4503599627370496 + F) ((E : Int) - 1075) := by
  have hE : (-1074 : Int) + ((E - 1 : Nat) : Int) = (E : Int) - 1075 := by omega
  unfold Ieee.Format.read
  simp only [show Ieee.double.signWeight = 9223372036854775808 from by decide, show Ieee.double.binade = 4503599627370496 from by decide]
  have h5 : (E * 4503599627370496 + F) / 4503599627370496 = E := by omega
  have h6 : (E * 4503599627370496 + F) % 4503599627370496 = F := by omega
  have h3 : (s * 9223372036854775808 + (E * 4503599627370496 + F)) % 9223372036854775808 = E * 4503599627370496 + F := by clear h5 h6; omega
  have h4 : (s * 9223372036854775808 + (E * 4503599627370496 + F)) / 9223372036854775808 % 2 = s := by clear h3 h5 h6; omega
  rw [h3, h4, h5, h6]
  rw [if_neg (by omega), if_pos (by rw [show Ieee.double.infRung = 9218868437227405312 from by decide]; omega)]
  rw [show Ieee.double.leastPlace = -1074 from by decide]
  rw [hE]

/-- the words of numbers -/
theorem word_cases (x m : Nat) (sg : Bool) (p : Int) (hx : x < 18446744073709551616) (h : Ieee.double.read x = .number sg m p) :
    ∃ s, s < 2 ∧ sg = (s == 1) ∧ ((x = s * 9223372036854775808 + m ∧ m < 4503599627370496 ∧ p = -1074) ∨ (∃ E F : Nat, x = s * 9223372036854775808 + (E * 4503599627370496 + F) ∧ 1 ≤ E ∧ E < 2047 ∧ F < 4503599627370496 ∧ m = 4503599627370496 + F ∧ p = (E : Int) - 1075)) := by
  have e0 : x = x / 9223372036854775808 * 9223372036854775808 + x % 9223372036854775808 := by omega
  have hs : x / 9223372036854775808 < 2 := by omega
  generalize x / 9223372036854775808 = s at e0 hs
  have hr : x % 9223372036854775808 < 9223372036854775808 := by omega
  generalize x % 9223372036854775808 = r at e0 hr
  subst e0
  refine ⟨s, hs, ?_⟩
  by_cases hsub : r < 4503599627370496
  · rw [read_sub s r hs hsub] at h
    injection h with h0 h1 h2
    subst h1
    exact ⟨h0.symm, .inl ⟨rfl, hsub, h2.symm⟩⟩
  · have hfin : r < 9218868437227405312 := by
      rcases Nat.lt_or_ge r 9218868437227405312 with g | g
      · exact g
      · exfalso
        have h1 : (s * 9223372036854775808 + r) % 9223372036854775808 = r := by omega
        unfold Ieee.Format.read at h
        simp only [show Ieee.double.signWeight = 9223372036854775808 from by decide, show Ieee.double.infRung = 9218868437227405312 from by decide, show Ieee.double.binade = 4503599627370496 from by decide, h1] at h
        rw [if_neg (by omega), if_neg (by omega)] at h
        split at h <;> simp at h
    have e : r = r / 4503599627370496 * 4503599627370496 + r % 4503599627370496 := by omega
    have k := read_nor s (r / 4503599627370496) (r % 4503599627370496) hs (by omega) (by omega) (by omega)
    rw [← e, h] at k
    injection k with k0 k1 k2
    exact ⟨k0, .inr ⟨_, _, by rw [← e], by omega, by omega, by omega, k1, k2⟩⟩

theorem clr (x : Nat) (hx : x < 18446744073709551616) : bits .andNot .u64 (x : Int) 9218868437227405312 = ((x / 9223372036854775808 * 9223372036854775808 + x % 4503599627370496 : Nat) : Int) := by
  have e := u64_andNot_nat x 9218868437227405312 hx (by decide)
  rw [show ((9218868437227405312 : Nat) : Int) = 9218868437227405312 from rfl] at e
  rw [e]
  have j : (18446744073709551615 - 9218868437227405312 : Nat) = 9223372036854775808 ||| 4503599627370495 := by decide
  rw [j, Nat.and_or_distrib_left, nat_hi64_63, nat_mask52, Nat.mod_eq_of_lt hx]
  rw [nat_join52 _ _ (by omega) (by omega)]
theorem put (s F N : Nat) (hs : s < 2) (hF : F < 4503599627370496) (hN : N < 2048) : bits .or .u64 ((s * 9223372036854775808 + F : Nat) : Int) ((N * 4503599627370496 : Nat) : Int) = ((s * 9223372036854775808 + (N * 4503599627370496 + F) : Nat) : Int) := by
  rw [u64_or_nat _ _ (by omega) (by omega)]
  have j1 : s * 9223372036854775808 + F = (s * 9223372036854775808) ||| F := (nat_join52 _ _ (by omega) hF).symm
  rw [j1, Nat.or_assoc, nat_join52' _ _ (by omega) hF, nat_join63 _ _ (by omega) (by omega)]

/-- odd parts are unique -/
theorem odd_unique (a b : Nat) (q r : Int) (ha : a % 2 = 1) (hb : b % 2 = 1) (h : (a : Rat) * Flo.pw q = (b : Rat) * Flo.pw r) : a = b ∧ q = r := by
  have key : ∀ (a b : Nat) (q r : Int), a % 2 = 1 → b % 2 = 1 → (a : Rat) * Flo.pw q = (b : Rat) * Flo.pw r → q ≤ r → a = b ∧ q = r := by
    intro a b q r ha hb h hle
    obtain ⟨d, hd⟩ := Int.eq_ofNat_of_zero_le (show 0 ≤ r - q by omega)
    have e : r = q + (d : Int) := by omega
    rw [e, Flo.pw_add, Flo.pw_nat] at h
    have p0 := Flo.pw_pos q
    have h2 : (a : Rat) = (b : Rat) * ((2 ^ d : Nat) : Rat) := by
      have := Rat.mul_inv_cancel (Flo.pw q) (by grind)
      have k : (a : Rat) * Flo.pw q * (Flo.pw q)⁻¹ = (b : Rat) * (Flo.pw q * ((2 ^ d : Nat) : Rat)) * (Flo.pw q)⁻¹ := by rw [h]
      grind
    have h3 : a = b * 2 ^ d := by exact_mod_cast h2
    cases d with
    | zero => exact ⟨by rw [h3]; simp, by omega⟩
    | succ d =>
      exfalso
      rw [Nat.pow_succ, ← Nat.mul_assoc] at h3
      omega
  rcases Int.le_total q r with g | g
  · exact key a b q r ha hb h g
  · obtain ⟨k1, k2⟩ := key b a r q hb ha h.symm g
    exact ⟨k1.symm, k2.symm⟩

theorem log_double (x : Nat) : ∃ p, Flo.pw p = (2 : Rat) ^ x := ⟨x, by rw [Flo.pw_nat]; push_cast; rfl⟩

end Go.Proofs.YtjmignhcfmdcaaaDoor
