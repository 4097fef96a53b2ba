/- Plain facts: rounding is monotone, and what is written of a number depends on its value alone. No program stands in it.
   Conditions: those that each statement names. -/
import Derived.Test.YtjmignhcfmdcaaaDoorSps
namespace Go.Proofs.YtjmignhcfmdcaaaDoor
set_option linter.unusedSimpArgs false
set_option linter.unusedVariables false
open Go
open Ieee
namespace Flo

/-- a tie goes to the even one -/
theorem cut_tie (neg : Bool) (n drop : Nat) (h : 2 * (Toward.even.cut neg n drop * 2 ^ drop) = 2 * n + 2 ^ drop ∨ 2 * n = 2 * (Toward.even.cut neg n drop * 2 ^ drop) + 2 ^ drop) :
    Toward.even.cut neg n drop % 2 = 0 := by
  revert h
  unfold Toward.cut
  simp only [Nat.shiftLeft_eq, Nat.one_mul]
  by_cases hd : drop ≤ n.log2 + 2
  · rw [Nat.min_eq_left hd]
    generalize hg : 2 ^ drop = gap
    have hpos : 0 < gap := by rw [← hg]; exact Nat.two_pow_pos _
    have hdm := Nat.div_add_mod n gap
    have hlt := Nat.mod_lt n hpos
    generalize n / gap = low at *
    generalize n % gap = rest at *
    rw [Nat.add_mul]
    have hc : low * gap = gap * low := Nat.mul_comm _ _
    rw [hc]
    by_cases h1 : gap < 2 * rest
    · simp only [h1, decide_true, Bool.true_or, Bool.toNat_true, Nat.one_mul]; omega
    · by_cases h2 : (gap == 2 * rest && low % 2 == 1) = true
      · simp only [h1, h2, decide_false, Bool.false_or, Bool.toNat_true, Nat.one_mul]
        simp at h2; omega
      · simp only [Bool.not_eq_true] at h2
        simp only [h1, h2, decide_false, Bool.false_or, Bool.toNat_false, Nat.zero_mul]
        simp at h2
        omega
  · have hd' : n.log2 + 2 ≤ drop := by omega
    rw [Nat.min_eq_right hd']
    have hn : n < 2 ^ (n.log2 + 1) := Nat.lt_log2_self
    have hn2 : 2 * n < 2 ^ (n.log2 + 2) := by rw [Nat.pow_succ]; omega
    have hz : n / 2 ^ (n.log2 + 2) = 0 := Nat.div_eq_of_lt (by omega)
    have hm : n % 2 ^ (n.log2 + 2) = n := Nat.mod_eq_of_lt (by omega)
    rw [hz, hm]
    have h1 : ¬ 2 ^ (n.log2 + 2) < 2 * n := by omega
    have h2 : (2 ^ (n.log2 + 2) == 2 * n && 0 % 2 == 1) = false := by simp
    simp only [h1, h2, decide_false, Bool.false_or, Bool.toNat_false, Nat.add_zero]
    intro _; trivial

theorem kept_tie (f : Format) (neg : Bool) (m : Nat) (p : Int)
    (h : 2 * ((keptOf f neg m p : Rat) * pw (lastOf f m p)) = 2 * ((m : Rat) * pw p) + pw (lastOf f m p) ∨ 2 * ((m : Rat) * pw p) = 2 * ((keptOf f neg m p : Rat) * pw (lastOf f m p)) + pw (lastOf f m p)) :
    keptOf f neg m p % 2 = 0 := by
  unfold keptOf at *
  generalize lastOf f m p = l at *
  apply cut_tie
  generalize Toward.even.cut neg (m <<< (p - l).toNat) (l - p).toNat = k at *
  rw [Nat.shiftLeft_eq]
  generalize hs1 : (p - l).toNat = s1 at *
  generalize hs2 : (l - p).toNat = s2 at *
  have e1 : pw p = pw s1 * pw (l - s2) := by rw [← pw_add]; congr 1; omega
  have e2 : pw l = pw s2 * pw (l - s2) := by rw [← pw_add]; congr 1; omega
  rw [e1, e2] at h
  have hp := pw_pos (l - s2)
  generalize pw (l - s2) = t at *
  have key : ∀ a b : Rat, a * t = b * t → a = b := fun a b h => by
    have h1 : a * t ≤ b * t := by grind
    have h2 : b * t ≤ a * t := by grind
    have := Rat.le_of_mul_le_mul_right h1 hp
    have := Rat.le_of_mul_le_mul_right h2 hp
    grind
  rcases h with h | h
  · left
    have h' := key (2 * (k * pw s2)) (2 * (m * pw s1) + pw s2) (by grind)
    rw [pw_nat, pw_nat] at h'
    exact_mod_cast h'
  · right
    have h' := key (2 * (m * pw s1)) (2 * (k * pw s2) + pw s2) (by grind)
    rw [pw_nat, pw_nat] at h'
    exact_mod_cast h'

/-- WHAT IS KEPT GROWS WITH THE NUMBER. -/
theorem kept_mono (f : Format) (s t : Bool) (m n : Nat) (p q : Int) (hm : m ≠ 0) (hn : n ≠ 0) (h : (m : Rat) * pw p ≤ (n : Rat) * pw q) :
    (keptOf f s m p : Rat) * pw (lastOf f m p) ≤ (keptOf f t n q : Rat) * pw (lastOf f n q) := by
  have z1 := size_pw m p hm
  have z2 := size_pw n q hn
  have z3 : p + (m.log2 : Int) < q + n.log2 + 1 := lt_of_pw_lt (by grind)
  have hl : lastOf f m p ≤ lastOf f n q := by unfold lastOf; omega
  obtain ⟨a1, a2⟩ := kept_near f s m p
  obtain ⟨b1, b2⟩ := kept_near f t n q
  rcases Int.lt_or_le (lastOf f m p) (lastOf f n q) with hlt | hge
  · have hb := le_kept f t n q hn (by unfold lastOf at *; omega)
    have ha := kept_le f s m p hm
    have ha' : (keptOf f s m p : Rat) ≤ ((2 ^ (f.fractionBits + 1) : Nat) : Rat) := by exact_mod_cast ha
    have hb' : ((2 ^ f.fractionBits : Nat) : Rat) ≤ (keptOf f t n q : Rat) := by exact_mod_cast hb
    rw [← pw_nat] at ha' hb'
    have g1 := Rat.mul_le_mul_of_nonneg_right ha' (Rat.le_of_lt (pw_pos (lastOf f m p)))
    have g2 := Rat.mul_le_mul_of_nonneg_right hb' (Rat.le_of_lt (pw_pos (lastOf f n q)))
    rw [← pw_add] at g1 g2
    have g3 : pw (((f.fractionBits + 1 : Nat) : Int) + lastOf f m p) ≤ pw ((f.fractionBits : Int) + lastOf f n q) := pw_le (by omega)
    grind
  · have he : lastOf f n q = lastOf f m p := by omega
    have t1 := kept_tie f s m p
    have t2 := kept_tie f t n q
    rw [he] at b1 b2 t2 ⊢
    generalize keptOf f s m p = kx at *
    generalize keptOf f t n q = ky at *
    have hp := pw_pos (lastOf f m p)
    generalize pw (lastOf f m p) = L at *
    rcases Nat.lt_or_ge ky kx with hk | hk
    · exfalso
      have hk' : ((ky + 1 : Nat) : Rat) ≤ (kx : Rat) := by exact_mod_cast hk
      rw [show ((ky + 1 : Nat) : Rat) = (ky : Rat) + 1 from by exact_mod_cast rfl] at hk'
      have g := Rat.mul_le_mul_of_nonneg_right hk' (Rat.le_of_lt hp)
      have u1 := t1 (.inl (by grind))
      have u2 := t2 (.inr (by grind))
      have e1 : ((kx : Rat) - (ky + 1)) * L = 0 := by grind
      have hk2 : ((ky + 2 : Nat) : Rat) ≤ (kx : Rat) := by exact_mod_cast (by omega : ky + 2 ≤ kx)
      rw [show ((ky + 2 : Nat) : Rat) = (ky : Rat) + 2 from by exact_mod_cast rfl] at hk2
      have g' := Rat.mul_le_mul_of_nonneg_right hk2 (Rat.le_of_lt hp)
      grind
    · have hk' : (kx : Rat) ≤ (ky : Rat) := by exact_mod_cast hk
      exact Rat.mul_le_mul_of_nonneg_right hk' (Rat.le_of_lt hp)

theorem mag_nonneg (m : Nat) (p : Int) : 0 ≤ (m : Rat) * pw p := Rat.mul_nonneg (by exact_mod_cast Nat.zero_le m) (Rat.le_of_lt (pw_pos p))
theorem mag_zero {m : Nat} {p : Int} (h : (m : Rat) * pw p ≤ 0) : m = 0 := by
  rcases Nat.eq_zero_or_pos m with h0 | h0
  · exact h0
  · exfalso
    have h1 := (size_pw m p (by omega)).1
    have := pw_pos (p + (m.log2 : Int))
    grind

/-- what is written, read again: the sign stays, the size grows with the number's -/
theorem write_mono (f : Format) (he : 2 ≤ f.exponentBits) (s t : Bool) (m n : Nat) (p q : Int) (h : (m : Rat) * pw p ≤ (n : Rat) * pw q) (hB : (n : Rat) * pw q < pw (top f)) :
    ∃ m' p' n' q', f.read (f.write (.number s m p)) = .number s m' p' ∧ f.read (f.write (.number t n q)) = .number t n' q' ∧ (m' : Rat) * pw p' ≤ (n' : Rat) * pw q' := by
  have e1 : f.write (.number s m p) = f.nearest s m p := rfl
  have e2 : f.write (.number t n q) = f.nearest t n q := rfl
  rw [e1, e2]
  by_cases hm : m = 0
  · subst hm
    have : f.nearest s 0 p = f.word s 0 := by unfold Format.nearest; simp
    rw [this, zero_read]
    by_cases hn : n = 0
    · subst hn
      have : f.nearest t 0 q = f.word t 0 := by unfold Format.nearest; simp
      rw [this, zero_read]
      exact ⟨_, _, _, _, rfl, rfl, by simp⟩
    · obtain ⟨n', q', h1, h2, h3, h4⟩ := read_nearest f t n q hn (rung_lt f t n q hn he hB)
      exact ⟨_, _, _, _, rfl, h1, by have := mag_nonneg n' q'; simp; grind⟩
  · have hn : n ≠ 0 := by
      intro hn; subst hn
      exact hm (mag_zero (by simpa using h))
    obtain ⟨n', q', h1, h2, h3, h4⟩ := read_nearest f t n q hn (rung_lt f t n q hn he hB)
    obtain ⟨m', p', k1, k2, k3, k4⟩ := read_nearest f s m p hm (rung_lt f s m p hm he (by grind))
    refine ⟨_, _, _, _, k1, h1, ?_⟩
    rw [k2, h2]
    exact kept_mono f s t m n p q hm hn h

end Flo
end Go.Proofs.YtjmignhcfmdcaaaDoor
