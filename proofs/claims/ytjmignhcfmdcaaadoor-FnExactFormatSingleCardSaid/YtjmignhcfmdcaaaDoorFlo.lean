/- Plain facts on binary floating point over the model's own words: what a rounded result reads as, and how far it lies from the exact number. No program stands in it.
   Conditions: none beyond those that each statement names. -/
import Ieee.Arith
import Derived.Laws.FloatBits
namespace Go.Proofs.YtjmignhcfmdcaaaDoor
set_option linter.unusedSimpArgs false
set_option linter.unusedVariables false
namespace Flo
open Ieee

/-! ### powers of two as rational numbers -/
def pw (e : Int) : Rat := (2 : Rat) ^ e
theorem two_ne : (2 : Rat) ≠ 0 := by decide
theorem pw_add (a b : Int) : pw (a + b) = pw a * pw b := Rat.zpow_add two_ne a b
theorem pw_pos (a : Int) : 0 < pw a := Rat.zpow_pos (by decide)
theorem pw_zero : pw 0 = 1 := Rat.zpow_zero 2
theorem pw_one : pw 1 = 2 := Rat.zpow_one 2
theorem pw_nat (n : Nat) : pw n = ((2 ^ n : Nat) : Rat) := by
  unfold pw; rw [Rat.zpow_natCast, Rat.natCast_pow]; rfl
theorem pw_succ (a : Int) : pw (a + 1) = 2 * pw a := by rw [pw_add, pw_one, Rat.mul_comm]
theorem pw_neg_mul (a : Int) : pw (-a) * pw a = 1 := by rw [← pw_add, show -a + a = 0 by omega, pw_zero]
theorem one_le_pw_nat (n : Nat) : 1 ≤ pw n := by
  rw [pw_nat]; exact_mod_cast Nat.one_le_two_pow
theorem pw_le {a b : Int} (h : a ≤ b) : pw a ≤ pw b := by
  obtain ⟨n, rfl⟩ := Int.le.dest h
  rw [pw_add]
  have h1 := one_le_pw_nat n
  have h2 := pw_pos a
  have := Rat.mul_le_mul_of_nonneg_left h1 (Rat.le_of_lt h2)
  grind
theorem pw_lt {a b : Int} (h : a < b) : pw a < pw b := by
  have h1 : pw (a + 1) ≤ pw b := pw_le (by omega)
  rw [pw_succ] at h1
  have := pw_pos a
  grind
theorem lt_of_pw_lt {a b : Int} (h : pw a < pw b) : a < b := by
  rcases Int.lt_or_le a b with h1 | h1
  · exact h1
  · have := pw_le h1; grind
theorem le_of_pw_le {a b : Int} (h : pw a ≤ pw b) : a ≤ b := by
  rcases Int.lt_or_le b a with h1 | h1
  · have := pw_lt h1; grind
  · exact h1

/-! ### the whole number that a cut leaves -/
theorem cut_even (neg : Bool) (n drop : Nat) :
    2 * (Toward.even.cut neg n drop * 2 ^ drop) ≤ 2 * n + 2 ^ drop ∧ 2 * n ≤ 2 * (Toward.even.cut neg n drop * 2 ^ drop) + 2 ^ drop := by
  unfold Toward.cut
  simp only [Nat.shiftLeft_eq, Nat.one_mul]
  by_cases hd : drop ≤ n.log2 + 2
  · rw [Nat.min_eq_left hd]
    generalize hg : 2 ^ drop = gap
    have hpos : 0 < gap := by rw [← hg]; exact Nat.two_pow_pos _
    have hdm := Nat.div_add_mod n gap
    have hlt := Nat.mod_lt n hpos
    generalize n / gap = low at *
    generalize n % gap = rest at *
    rw [Nat.add_mul]
    have hc : low * gap = gap * low := Nat.mul_comm _ _
    rw [hc]
    by_cases h1 : gap < 2 * rest
    · simp only [h1, decide_true, Bool.true_or, Bool.toNat_true, Nat.one_mul]; omega
    · by_cases h2 : (gap == 2 * rest && low % 2 == 1) = true
      · simp only [h1, h2, decide_false, Bool.false_or, Bool.toNat_true, Nat.one_mul]
        simp at h2; omega
      · simp only [Bool.not_eq_true] at h2
        simp only [h1, h2, decide_false, Bool.false_or, Bool.toNat_false, Nat.zero_mul]; omega
  · have hd' : n.log2 + 2 ≤ drop := by omega
    rw [Nat.min_eq_right hd']
    have hn : n < 2 ^ (n.log2 + 1) := Nat.lt_log2_self
    have hn2 : 2 * n < 2 ^ (n.log2 + 2) := by rw [Nat.pow_succ]; omega
    have hz : n / 2 ^ (n.log2 + 2) = 0 := Nat.div_eq_of_lt (by omega)
    have hm : n % 2 ^ (n.log2 + 2) = n := Nat.mod_eq_of_lt (by omega)
    have hle : 2 ^ (n.log2 + 2) ≤ 2 ^ drop := Nat.pow_le_pow_right (by omega) hd'
    rw [hz, hm]
    have h1 : ¬ 2 ^ (n.log2 + 2) < 2 * n := by omega
    have h2 : (2 ^ (n.log2 + 2) == 2 * n && 0 % 2 == 1) = false := by simp
    simp only [h1, h2, decide_false, Bool.false_or, Bool.toNat_false, Nat.add_zero, Nat.zero_mul]
    omega

/-! ### what a written number reads as -/
/-- the place of the last digit that is kept -/
def lastOf (f : Format) (m : Nat) (p : Int) : Int := max (p + m.log2 - f.fractionBits) f.leastPlace
/-- the whole number of units that is kept -/
def keptOf (f : Format) (neg : Bool) (m : Nat) (p : Int) : Nat :=
  Toward.even.cut neg (m <<< (p - lastOf f m p).toNat) (lastOf f m p - p).toNat

def val (neg : Bool) (m : Nat) (p : Int) : Rat := (if neg then -1 else 1) * ((m : Rat) * pw p)

theorem kept_near (f : Format) (neg : Bool) (m : Nat) (p : Int) :
    2 * ((keptOf f neg m p : Rat) * pw (lastOf f m p)) ≤ 2 * ((m : Rat) * pw p) + pw (lastOf f m p) ∧
    2 * ((m : Rat) * pw p) ≤ 2 * ((keptOf f neg m p : Rat) * pw (lastOf f m p)) + pw (lastOf f m p) := by
  unfold keptOf
  generalize lastOf f m p = l
  have h := cut_even neg (m <<< (p - l).toNat) (l - p).toNat
  generalize Toward.even.cut neg (m <<< (p - l).toNat) (l - p).toNat = k at *
  rw [Nat.shiftLeft_eq] at h
  obtain ⟨h1, h2⟩ := h
  have h1' : (2 : Rat) * (k * ((2 ^ (l - p).toNat : Nat) : Rat)) ≤ 2 * (m * ((2 ^ (p - l).toNat : Nat) : Rat)) + ((2 ^ (l - p).toNat : Nat) : Rat) := by exact_mod_cast h1
  have h2' : (2 : Rat) * (m * ((2 ^ (p - l).toNat : Nat) : Rat)) ≤ 2 * (k * ((2 ^ (l - p).toNat : Nat) : Rat)) + ((2 ^ (l - p).toNat : Nat) : Rat) := by exact_mod_cast h2
  rw [← pw_nat, ← pw_nat] at h1' h2'
  generalize hs1 : (p - l).toNat = s1 at *
  generalize hs2 : (l - p).toNat = s2 at *
  have e1 : pw p = pw s1 * pw (l - s2) := by rw [← pw_add]; congr 1; omega
  have e2 : pw l = pw s2 * pw (l - s2) := by rw [← pw_add]; congr 1; omega
  rw [e1, e2]
  have hp := Rat.le_of_lt (pw_pos (l - s2))
  generalize pw (l - s2) = t at *
  generalize pw (s1 : Int) = a at *
  generalize pw (s2 : Int) = b at *
  have g1 := Rat.mul_le_mul_of_nonneg_right h1' hp
  have g2 := Rat.mul_le_mul_of_nonneg_right h2' hp
  constructor <;> grind

theorem log2_pw (m : Nat) (h : m ≠ 0) : pw m.log2 ≤ (m : Rat) ∧ (m : Rat) < pw (m.log2 + 1) := by
  have h1 := Nat.log2_self_le h
  have h2 : m < 2 ^ (m.log2 + 1) := Nat.lt_log2_self
  have e : ((m.log2 : Int) + 1) = ((m.log2 + 1 : Nat) : Int) := by omega
  rw [e, pw_nat, pw_nat]
  exact ⟨by exact_mod_cast h1, by exact_mod_cast h2⟩

theorem size_pw (m : Nat) (p : Int) (h : m ≠ 0) : pw (p + m.log2) ≤ (m : Rat) * pw p ∧ (m : Rat) * pw p < pw (p + m.log2 + 1) := by
  obtain ⟨h1, h2⟩ := log2_pw m h
  have hp := pw_pos p
  have e : p + (m.log2 : Int) + 1 = p + ((m.log2 : Int) + 1) := by omega
  rw [e, pw_add, pw_add]
  have g1 := Rat.mul_le_mul_of_nonneg_left h1 (Rat.le_of_lt hp)
  have g2 := (Rat.mul_lt_mul_left hp).2 h2
  constructor <;> grind

theorem le_nat_of (a b : Nat) (l : Int) (h : 2 * ((a : Rat) * pw l) ≤ 2 * ((b : Rat) * pw l) + pw l) : a ≤ b := by
  rcases Nat.lt_or_ge b a with h1 | h1
  · exfalso
    have h2 : ((b + 1 : Nat) : Rat) ≤ (a : Rat) := by exact_mod_cast h1
    have hp := pw_pos l
    have h3 := Rat.mul_le_mul_of_nonneg_right h2 (Rat.le_of_lt hp)
    rw [show ((b + 1 : Nat) : Rat) = (b : Rat) + 1 from by exact_mod_cast rfl] at h3
    grind
  · exact h1

/-- what is kept has at most one digit more than the fraction field has -/
theorem kept_le (f : Format) (neg : Bool) (m : Nat) (p : Int) (h : m ≠ 0) : keptOf f neg m p ≤ 2 ^ (f.fractionBits + 1) := by
  apply le_nat_of _ _ (lastOf f m p)
  have h1 := (kept_near f neg m p).1
  have h2 := (size_pw m p h).2
  have h3 : p + m.log2 + 1 ≤ (f.fractionBits + 1 : Nat) + lastOf f m p := by unfold lastOf; omega
  have h4 := pw_le h3
  rw [pw_add ((f.fractionBits + 1 : Nat) : Int), pw_nat] at h4
  grind

theorem le_kept (f : Format) (neg : Bool) (m : Nat) (p : Int) (h : m ≠ 0) (hl : f.leastPlace < lastOf f m p) : 2 ^ f.fractionBits ≤ keptOf f neg m p := by
  apply le_nat_of _ _ (lastOf f m p)
  have h1 := (kept_near f neg m p).2
  have h2 := (size_pw m p h).1
  have h3 : (f.fractionBits : Nat) + lastOf f m p ≤ p + m.log2 := by unfold lastOf at *; omega
  have h4 := pw_le h3
  rw [pw_add, pw_nat] at h4
  grind

def rungOf (f : Format) (neg : Bool) (m : Nat) (p : Int) : Nat := (lastOf f m p - f.leastPlace).toNat * f.binade + keptOf f neg m p

theorem nearest_eq (f : Format) (neg : Bool) (m : Nat) (p : Int) (h : m ≠ 0) : f.nearest neg m p = f.word neg (min (rungOf f neg m p) f.infRung) := by
  unfold Format.nearest rungOf keptOf lastOf
  rw [if_neg h]

theorem sw_pos (f : Format) : 0 < f.signWeight := Nat.two_pow_pos _
theorem word_mod (f : Format) (neg : Bool) {r : Nat} (h : r < f.signWeight) : f.word neg r % f.signWeight = r := by
  unfold Format.word; split
  · rw [Nat.add_mod_left]; exact Nat.mod_eq_of_lt h
  · exact Nat.mod_eq_of_lt h
theorem word_div (f : Format) (neg : Bool) {r : Nat} (h : r < f.signWeight) : (f.word neg r / f.signWeight % 2 == 1) = neg := by
  unfold Format.word; split
  · rename_i hn; rw [Nat.add_div_left _ (sw_pos f), Nat.div_eq_of_lt h]; simp [hn]
  · rename_i hn; rw [Nat.div_eq_of_lt h]; simp at hn; simp [hn]

theorem read_word (f : Format) (neg : Bool) {r : Nat} (h : r < f.infRung) :
    f.read (f.word neg r) = if r < f.binade then .number neg r f.leastPlace else .number neg (f.binade + r % f.binade) (f.leastPlace + (r / f.binade - 1 : Nat)) := by
  have hs := Nat.lt_trans h f.infRung_lt
  unfold Format.read
  simp only [word_mod f neg hs, word_div f neg hs]
  rw [if_pos h]

theorem read_word_inf (f : Format) (neg : Bool) : f.read (f.word neg f.infRung) = if f.infRung < f.binade then .number neg f.infRung f.leastPlace else .infinity neg := by
  unfold Format.read
  simp only [word_mod f neg f.infRung_lt, word_div f neg f.infRung_lt]
  split <;> simp

theorem bin_pos (f : Format) : 0 < f.binade := Nat.two_pow_pos _

/-- a number that is written and lies below infinity reads as the kept units -/
theorem read_nearest (f : Format) (neg : Bool) (m : Nat) (p : Int) (h : m ≠ 0) (hr : rungOf f neg m p < f.infRung) :
    ∃ m' p', f.read (f.nearest neg m p) = .number neg m' p' ∧ (m' : Rat) * pw p' = (keptOf f neg m p : Rat) * pw (lastOf f m p) ∧ f.leastPlace ≤ p' ∧ m' < 2 ^ (f.fractionBits + 1) := by
  rw [nearest_eq f neg m p h, Nat.min_eq_left (Nat.le_of_lt hr), read_word f neg hr]
  have hk := kept_le f neg m p h
  have hb : f.binade = 2 ^ f.fractionBits := rfl
  have hb1 : 2 ^ (f.fractionBits + 1) = 2 * f.binade := by rw [hb, Nat.pow_succ, Nat.mul_comm]
  have hbp := bin_pos f
  have hll : f.leastPlace ≤ lastOf f m p := by unfold lastOf; omega
  unfold rungOf at *
  generalize hkk : keptOf f neg m p = k at *
  generalize hL : lastOf f m p = l at *
  by_cases hl : f.leastPlace < l
  · have hk2 : f.binade ≤ k := by
      have := le_kept f neg m p h (by rw [hL]; exact hl)
      rw [hkk] at this; exact this
    obtain ⟨d, hd⟩ : ∃ d : Nat, l = f.leastPlace + (d + 1 : Nat) := ⟨(l - f.leastPlace).toNat - 1, by omega⟩
    have ht : (l - f.leastPlace).toNat = d + 1 := by omega
    rw [ht] at hr ⊢
    have hge : ¬ ((d + 1) * f.binade + k < f.binade) := by
      have : f.binade ≤ (d + 1) * f.binade := Nat.le_mul_of_pos_left _ (by omega)
      omega
    rw [if_neg hge]
    by_cases hk3 : k < 2 * f.binade
    · obtain ⟨j, hj⟩ : ∃ j, k = f.binade + j := ⟨k - f.binade, by omega⟩
      have e1 : (d + 1) * f.binade + k = j + f.binade * (d + 2) := by rw [hj, Nat.add_mul, Nat.mul_add, Nat.mul_comm d]; omega
      have hjlt : j < f.binade := by omega
      rw [e1, Nat.add_mul_mod_self_left, Nat.mod_eq_of_lt hjlt, Nat.add_mul_div_left _ _ hbp, Nat.div_eq_of_lt hjlt]
      refine ⟨_, _, rfl, ?_, by omega, by omega⟩
      rw [← hj, hd]; congr 2; omega
    · have hk4 : k = 2 * f.binade := by omega
      have e1 : (d + 1) * f.binade + k = 0 + f.binade * (d + 3) := by rw [hk4, Nat.add_mul, Nat.mul_add, Nat.mul_comm d]; omega
      rw [e1, Nat.add_mul_mod_self_left, Nat.zero_mod, Nat.add_mul_div_left _ _ hbp, Nat.zero_div]
      refine ⟨_, _, rfl, ?_, by omega, by omega⟩
      rw [hk4, hd, show f.leastPlace + ((0 + (d + 3) - 1 : Nat) : Int) = (f.leastPlace + ((d + 1 : Nat) : Int)) + 1 from by omega, pw_succ]
      rw [show ((2 * f.binade : Nat) : Rat) = 2 * (f.binade : Rat) from by exact_mod_cast rfl]
      grind
  · have hl0 : l = f.leastPlace := by omega
    have ht : (l - f.leastPlace).toNat = 0 := by omega
    rw [ht, Nat.zero_mul, Nat.zero_add] at hr ⊢
    by_cases hkb : k < f.binade
    · rw [if_pos hkb]; exact ⟨_, _, rfl, by rw [hl0], by omega, by omega⟩
    · rw [if_neg hkb]
      by_cases hk3 : k < 2 * f.binade
      · obtain ⟨j, hj⟩ : ∃ j, k = f.binade + j := ⟨k - f.binade, by omega⟩
        have e1 : k = j + f.binade * 1 := by omega
        have hjlt : j < f.binade := by omega
        rw [e1, Nat.add_mul_mod_self_left, Nat.mod_eq_of_lt hjlt, Nat.add_mul_div_left _ _ hbp, Nat.div_eq_of_lt hjlt]
        refine ⟨_, _, rfl, ?_, by omega, by omega⟩
        rw [hl0, show f.binade + j = j + f.binade * 1 from by omega]; congr 2; omega
      · have hk4 : k = 0 + f.binade * 2 := by omega
        rw [hk4, Nat.add_mul_mod_self_left, Nat.zero_mod, Nat.add_mul_div_left _ _ hbp, Nat.zero_div]
        refine ⟨_, _, rfl, ?_, by omega, by omega⟩
        rw [hl0, show f.leastPlace + ((0 + 2 - 1 : Nat) : Int) = f.leastPlace + 1 from by omega, pw_succ]
        rw [show ((0 + f.binade * 2 : Nat) : Rat) = 2 * (f.binade : Rat) from by rw [Nat.zero_add, Nat.mul_comm]; exact_mod_cast rfl]
        rw [show ((f.binade + 0 : Nat) : Rat) = (f.binade : Rat) from rfl]
        grind

/-! ### values -/
def IsNum (f : Format) (b : Nat) : Prop := ∃ s m p, f.read b = .number s m p
def V (f : Format) (b : Nat) : Rat := match f.read b with | .number s m p => val s m p | _ => 0
def Near (r x e : Rat) : Prop := r ≤ x + e ∧ x ≤ r + e
/-- below two to this power no rounding overflows -/
def top (f : Format) : Int := f.leastPlace + f.fractionBits + ((2 ^ f.exponentBits : Nat) - 3)

theorem V_eq {f : Format} {b : Nat} {s : Bool} {m : Nat} {p : Int} (h : f.read b = .number s m p) : V f b = val s m p := by unfold V; rw [h]

theorem log2_lt_of (m : Nat) (p t : Int) (h : m ≠ 0) (hx : (m : Rat) * pw p < pw t) : p + m.log2 < t := by
  have h1 := (size_pw m p h).1
  exact lt_of_pw_lt (by grind)

theorem rung_lt (f : Format) (neg : Bool) (m : Nat) (p : Int) (h : m ≠ 0) (he : 2 ≤ f.exponentBits) (hx : (m : Rat) * pw p < pw (top f)) : rungOf f neg m p < f.infRung := by
  have h1 := log2_lt_of m p _ h hx
  have h2 := kept_le f neg m p h
  have h4 : 4 ≤ 2 ^ f.exponentBits := by
    have := Nat.pow_le_pow_right (n := 2) (by omega) he
    simpa using this
  unfold rungOf Format.infRung
  have hb1 : 2 ^ (f.fractionBits + 1) = 2 * f.binade := by rw [Nat.pow_succ, Nat.mul_comm]; rfl
  have h5 : (lastOf f m p - f.leastPlace).toNat ≤ 2 ^ f.exponentBits - 4 := by unfold lastOf; unfold top at h1; omega
  have h6 := Nat.mul_le_mul_right f.binade h5
  have h7 : (2 ^ f.exponentBits - 1) * f.binade = (2 ^ f.exponentBits - 4) * f.binade + 3 * f.binade := by rw [← Nat.add_mul]; congr 1; omega
  have := bin_pos f
  omega

theorem val_zero (s : Bool) (p : Int) : val s 0 p = 0 := by unfold val; cases s <;> simp
theorem zero_read (f : Format) (s : Bool) : f.read (f.word s 0) = .number s 0 f.leastPlace := by
  unfold Format.read
  simp only [word_mod f s (sw_pos f), word_div f s (sw_pos f)]
  rw [if_pos (bin_pos f)]

theorem last_half (f : Format) (m : Nat) (p : Int) (h : m ≠ 0) : pw (lastOf f m p) ≤ (m : Rat) * pw p * pw (-f.fractionBits) + pw f.leastPlace := by
  have h1 := (size_pw m p h).1
  have hp1 := pw_pos (-(f.fractionBits : Int))
  have hp2 := pw_pos f.leastPlace
  have hm : 0 ≤ (m : Rat) * pw p := by have := pw_pos (p + m.log2); grind
  unfold lastOf
  rcases Int.le_total (p + m.log2 - f.fractionBits) f.leastPlace with h3 | h3
  · rw [Int.max_eq_right h3]
    have := Rat.mul_nonneg hm (Rat.le_of_lt hp1)
    grind
  · rw [Int.max_eq_left h3, show p + (m.log2 : Int) - f.fractionBits = (p + m.log2) + (-(f.fractionBits : Int)) from by omega, pw_add]
    have := Rat.mul_le_mul_of_nonneg_right h1 (Rat.le_of_lt hp1)
    grind

/-- WHAT IS WRITTEN IS NEAR WHAT WAS MEANT: half a unit. -/
theorem nearest_ok (f : Format) (he : 2 ≤ f.exponentBits) (s : Bool) (m : Nat) (p : Int) (hx : (m : Rat) * pw p < pw (top f)) :
    ∃ m' p', f.read (f.nearest s m p) = .number s m' p' ∧ f.leastPlace ≤ p' ∧ m' < 2 ^ (f.fractionBits + 1) ∧
      2 * ((m' : Rat) * pw p') ≤ 2 * ((m : Rat) * pw p) + ((m : Rat) * pw p * pw (-f.fractionBits) + pw f.leastPlace) ∧
      2 * ((m : Rat) * pw p) ≤ 2 * ((m' : Rat) * pw p') + ((m : Rat) * pw p * pw (-f.fractionBits) + pw f.leastPlace) := by
  by_cases h : m = 0
  · subst h
    have : f.nearest s 0 p = f.word s 0 := by unfold Format.nearest; simp
    rw [this, zero_read]
    have := pw_pos f.leastPlace
    refine ⟨_, _, rfl, Int.le_refl _, Nat.two_pow_pos _, ?_, ?_⟩ <;> simp <;> grind
  · obtain ⟨m', p', h1, h2, h3, h4⟩ := read_nearest f s m p h (rung_lt f s m p h he hx)
    have h5 := kept_near f s m p
    have h6 := last_half f m p h
    refine ⟨m', p', h1, h3, h4, ?_, ?_⟩ <;> rw [h2] <;> grind

theorem val_near (s : Bool) (m m' : Nat) (p p' : Int) (e : Rat) (h1 : 2 * ((m' : Rat) * pw p') ≤ 2 * ((m : Rat) * pw p) + e) (h2 : 2 * ((m : Rat) * pw p) ≤ 2 * ((m' : Rat) * pw p') + e) :
    2 * val s m' p' ≤ 2 * val s m p + e ∧ 2 * val s m p ≤ 2 * val s m' p' + e := by
  unfold val; cases s <;> constructor <;> simp <;> grind

theorem val_abs (s : Bool) (m : Nat) (p : Int) (B : Rat) (h1 : val s m p ≤ B) (h2 : -B ≤ val s m p) : (m : Rat) * pw p ≤ B := by
  unfold val at *; cases s <;> simp at * <;> grind

/-- the same for signed values: 'B' bounds the number's absolute value -/
theorem write_ok (f : Format) (he : 2 ≤ f.exponentBits) (s : Bool) (m : Nat) (p : Int) (B : Rat) (h1 : val s m p ≤ B) (h2 : -B ≤ val s m p) (hB : B < pw (top f)) :
    IsNum f (f.write (.number s m p)) ∧ Near (V f (f.write (.number s m p))) (val s m p) ((B * pw (-f.fractionBits) + pw f.leastPlace) / 2) := by
  have hm := val_abs s m p B h1 h2
  obtain ⟨m', p', g1, _, _, g4, g5⟩ := nearest_ok f he s m p (by grind)
  have hw : f.write (.number s m p) = f.nearest s m p := rfl
  rw [hw]
  refine ⟨⟨_, _, _, g1⟩, ?_⟩
  rw [V_eq g1]
  obtain ⟨k1, k2⟩ := val_near s m m' p p' _ g4 g5
  have := Rat.mul_le_mul_of_nonneg_right hm (Rat.le_of_lt (pw_pos (-(f.fractionBits : Int))))
  unfold Near
  constructor <;> grind

/-- A NUMBER THAT THE FORMAT HAS IS WRITTEN AS IT IS. -/
theorem write_exact (f : Format) (he : 2 ≤ f.exponentBits) (s : Bool) (m : Nat) (p : Int) (k : Nat) (e : Int) (hk : (m : Rat) * pw p = (k : Rat) * pw e) (hk1 : k < 2 ^ (f.fractionBits + 1)) (hp : f.leastPlace ≤ e) (hB : (m : Rat) * pw p < pw (top f)) :
    ∃ m' p', f.read (f.write (.number s m p)) = .number s m' p' ∧ f.leastPlace ≤ p' ∧ m' < 2 ^ (f.fractionBits + 1) ∧ (m' : Rat) * pw p' = (m : Rat) * pw p := by
  have hw : f.write (.number s m p) = f.nearest s m p := rfl
  rw [hw]
  by_cases h : m = 0
  · subst h
    have : f.nearest s 0 p = f.word s 0 := by unfold Format.nearest; simp
    rw [this, zero_read]
    exact ⟨_, _, rfl, Int.le_refl _, Nat.two_pow_pos _, by simp⟩
  · obtain ⟨m', p', h1, h2, h3, h4⟩ := read_nearest f s m p h (rung_lt f s m p h he hB)
    refine ⟨m', p', h1, h3, h4, ?_⟩
    rw [h2, hk]
    obtain ⟨n1, n2⟩ := kept_near f s m p
    have hk0 : k ≠ 0 := by
      intro hk0; subst hk0
      have := (size_pw m p h).1
      have := pw_pos (p + m.log2)
      simp at hk
      grind
    have hlast : lastOf f m p ≤ e := by
      have a1 := (size_pw m p h).1
      have a2 := (size_pw k e hk0).2
      rw [← hk] at a2
      have a3 := lt_of_pw_lt (a := p + m.log2) (b := e + k.log2 + 1) (by grind)
      have a4 : k.log2 < f.fractionBits + 1 := by
        rw [Nat.log2_lt hk0]; exact hk1
      unfold lastOf; omega
    obtain ⟨d, hd⟩ := Int.le.dest hlast
    rw [hk, ← hd, Int.add_comm, pw_add, pw_nat] at n1 n2
    rw [← hd, Int.add_comm, pw_add, pw_nat]
    have hp := pw_pos (lastOf f m p)
    have q1 : keptOf f s m p ≤ k * 2 ^ d := le_nat_of _ _ (lastOf f m p) (by push_cast; grind)
    have q2 : k * 2 ^ d ≤ keptOf f s m p := le_nat_of _ _ (lastOf f m p) (by push_cast; grind)
    have q3 : keptOf f s m p = k * 2 ^ d := by omega
    rw [q3]; push_cast; grind

/-! ### the operations -/
theorem signed_val (s : Bool) (m : Nat) (i base : Int) (h : base ≤ i) : ((signed s m (i - base).toNat : Int) : Rat) * pw base = val s m i := by
  obtain ⟨d, hd⟩ := Int.le.dest h
  have e : (i - base).toNat = d := by omega
  rw [e, ← hd, Int.add_comm]
  have hc : (((m * 2 ^ d : Nat) : Int) : Rat) = (m : Rat) * ((2 ^ d : Nat) : Rat) := by rw [Rat.intCast_natCast, Rat.natCast_mul]
  unfold signed val
  rw [pw_add, pw_nat, Nat.shiftLeft_eq]
  generalize ((2 ^ d : Nat) : Rat) = D at *
  generalize pw base = b at *
  cases s
  · rw [if_neg (by simp), if_neg (by simp), hc]; grind
  · rw [if_pos rfl, if_pos rfl, Rat.intCast_neg, hc]; grind

theorem int_val (t : Int) (s : Bool) (p : Int) : val (if t = 0 then s else decide (t < 0)) t.natAbs p = (t : Rat) * pw p := by
  unfold val
  rcases Int.lt_trichotomy t 0 with h | h | h
  · have e0 : (if t = 0 then s else decide (t < 0)) = true := by rw [if_neg (by omega)]; exact decide_eq_true h
    obtain ⟨n, hn⟩ : ∃ n : Nat, t = -(n : Int) := ⟨t.natAbs, by omega⟩
    rw [e0, if_pos rfl]
    subst hn
    rw [Int.natAbs_neg, Int.natAbs_natCast, Rat.intCast_neg, Rat.intCast_natCast]; grind
  · subst h; simp
  · have e0 : (if t = 0 then s else decide (t < 0)) = false := by rw [if_neg (by omega)]; exact decide_eq_false (by omega)
    obtain ⟨n, hn⟩ : ∃ n : Nat, t = (n : Int) := ⟨t.natAbs, by omega⟩
    rw [e0, if_neg (by simp)]
    subst hn
    rw [Int.natAbs_natCast, Rat.intCast_natCast]; grind

theorem sum_val (s t : Bool) (m n : Nat) (i j : Int) : ∃ q k b, Datum.sum (.number s m i) (.number t n j) = some (.number q k b) ∧ val q k b = val s m i + val t n j := by
  refine ⟨_, _, _, rfl, ?_⟩
  rw [int_val, Rat.intCast_add, Rat.add_mul, signed_val _ _ _ _ (by omega), signed_val _ _ _ _ (by omega)]

theorem val_mul (s t : Bool) (m n : Nat) (i j : Int) : val (s ^^ t) (m * n) (i + j) = val s m i * val t n j := by
  unfold val; rw [pw_add, Rat.natCast_mul]
  cases s <;> cases t <;> simp <;> grind

theorem val_opp (s : Bool) (m : Nat) (i : Int) : val (!s) m i = - val s m i := by
  unfold val; cases s <;> simp <;> grind

theorem add_ok (f : Format) (he : 2 ≤ f.exponentBits) (x y : Nat) (hx : IsNum f x) (hy : IsNum f y) (B : Rat) (h1 : V f x + V f y ≤ B) (h2 : -B ≤ V f x + V f y) (hB : B < pw (top f)) :
    ∃ r, f.add x y = some r ∧ IsNum f r ∧ Near (V f r) (V f x + V f y) ((B * pw (-f.fractionBits) + pw f.leastPlace) / 2) := by
  obtain ⟨s, m, i, hx⟩ := hx
  obtain ⟨t, n, j, hy⟩ := hy
  rw [V_eq hx, V_eq hy] at *
  obtain ⟨q, k, b, h3, h4⟩ := sum_val s t m n i j
  unfold Format.add
  rw [hx, hy, h3]
  refine ⟨_, rfl, ?_⟩
  rw [← h4] at h1 h2 ⊢
  exact write_ok f he q k b B h1 h2 hB

theorem sub_ok (f : Format) (he : 2 ≤ f.exponentBits) (x y : Nat) (hx : IsNum f x) (hy : IsNum f y) (B : Rat) (h1 : V f x - V f y ≤ B) (h2 : -B ≤ V f x - V f y) (hB : B < pw (top f)) :
    ∃ r, f.sub x y = some r ∧ IsNum f r ∧ Near (V f r) (V f x - V f y) ((B * pw (-f.fractionBits) + pw f.leastPlace) / 2) := by
  obtain ⟨s, m, i, hx⟩ := hx
  obtain ⟨t, n, j, hy⟩ := hy
  rw [V_eq hx, V_eq hy] at *
  obtain ⟨q, k, b, h3, h4⟩ := sum_val s (!t) m n i j
  rw [val_opp] at h4
  unfold Format.sub
  rw [hx, hy, show (Datum.number t n j).opposite = .number (!t) n j from rfl, h3]
  refine ⟨_, rfl, ?_⟩
  have h5 : val q k b = val s m i - val t n j := by grind
  rw [← h5] at h1 h2 ⊢
  exact write_ok f he q k b B h1 h2 hB

theorem mul_ok (f : Format) (he : 2 ≤ f.exponentBits) (x y : Nat) (hx : IsNum f x) (hy : IsNum f y) (B : Rat) (h1 : V f x * V f y ≤ B) (h2 : -B ≤ V f x * V f y) (hB : B < pw (top f)) :
    ∃ r, f.mul x y = some r ∧ IsNum f r ∧ Near (V f r) (V f x * V f y) ((B * pw (-f.fractionBits) + pw f.leastPlace) / 2) := by
  obtain ⟨s, m, i, hx⟩ := hx
  obtain ⟨t, n, j, hy⟩ := hy
  rw [V_eq hx, V_eq hy] at *
  unfold Format.mul
  rw [hx, hy, show Datum.product (.number s m i) (.number t n j) = some (.number (s ^^ t) (m * n) (i + j)) from rfl]
  refine ⟨_, rfl, ?_⟩
  rw [← val_mul] at h1 h2 ⊢
  exact write_ok f he _ _ _ B h1 h2 hB

theorem quot_val (s t : Bool) (m n : Nat) (i j : Int) (digits : Nat) (hdig : 1 ≤ digits) (hn : n ≠ 0) :
    ∃ k b, Datum.quotient digits (.number s m i) (.number t n j) = some (.number (s ^^ t) k b) ∧
      ∀ q : Rat, q * ((n : Rat) * pw j) = (m : Rat) * pw i → 0 ≤ q →
        (k : Rat) * pw b ≤ q + q * pw (-(digits : Int)) ∧ q ≤ (k : Rat) * pw b + q * pw (-(digits : Int)) := by
  refine ⟨_, _, by simp only [Datum.quotient, if_neg hn]; rfl, ?_⟩
  intro q hq hq0
  generalize hmore : digits + n.log2 - m.log2 = more
  rw [Nat.shiftLeft_eq]
  have hnp : 0 < n := by omega
  have hdm := Nat.div_add_mod (m * 2 ^ more) n
  have hlt := Nat.mod_lt (m * 2 ^ more) hnp
  by_cases hm : m = 0
  · subst hm
    have hn0 : (n : Rat) * pw j ≠ 0 := by
      have h1 := (size_pw n j hn).1
      have h2 := pw_pos (j + n.log2)
      grind
    have hq00 : q = 0 := by simp at hq; grind
    subst hq00
    have hz : 2 * (0 * 2 ^ more / n) + (0 * 2 ^ more % n != 0).toNat = 0 := by simp
    rw [hz]
    constructor <;> simp <;> grind
  · have hfl : 2 ^ (digits - 1) ≤ m * 2 ^ more / n := by
      rw [Nat.le_div_iff_mul_le hnp]
      have h1 := Nat.log2_self_le hm
      have h2 : n < 2 ^ (n.log2 + 1) := Nat.lt_log2_self
      have h3 : 2 ^ (m.log2 + more) ≤ m * 2 ^ more := by rw [Nat.pow_add]; exact Nat.mul_le_mul_right _ h1
      have h4 : 2 ^ (digits + n.log2) ≤ 2 ^ (m.log2 + more) := Nat.pow_le_pow_right (by omega) (by omega)
      have h5 : 2 ^ (digits - 1) * n ≤ 2 ^ (digits - 1) * 2 ^ (n.log2 + 1) := Nat.mul_le_mul_left _ (by omega)
      rw [← Nat.pow_add, show digits - 1 + (n.log2 + 1) = digits + n.log2 from by omega] at h5
      omega
    generalize hst : (m * 2 ^ more % n != 0).toNat = st
    have hst1 : st = if m * 2 ^ more % n = 0 then 0 else 1 := by
      rw [← hst]; by_cases h0 : m * 2 ^ more % n = 0 <;> simp [h0]
    generalize hD : m * 2 ^ more / n = D at *
    generalize hR : m * 2 ^ more % n = R at *
    -- in whole numbers: twice the dividend lies within one divisor of '(2 D + st) n'
    have w1 : (2 * D + st) * n ≤ 2 * (m * 2 ^ more) + n := by
      rw [Nat.add_mul, Nat.mul_assoc, Nat.mul_comm D n]
      have : st * n ≤ n := by rw [hst1]; split <;> simp
      omega
    have w2 : 2 * (m * 2 ^ more) ≤ (2 * D + st) * n + n := by
      rw [Nat.add_mul, Nat.mul_assoc, Nat.mul_comm D n]
      by_cases h0 : R = 0
      · omega
      · have : st = 1 := by rw [hst1, if_neg h0]
        rw [this]; omega
    have w1' : ((2 * D + st : Nat) : Rat) * n ≤ 2 * (m * pw more) + n := by rw [pw_nat]; exact_mod_cast w1
    have w2' : 2 * (m * pw more) ≤ ((2 * D + st : Nat) : Rat) * n + n := by rw [pw_nat]; exact_mod_cast w2
    generalize ((2 * D + st : Nat) : Rat) = K at *
    have hN : 0 < (n : Rat) := by exact_mod_cast hnp
    -- the unit
    have eb : pw i * pw (-j) = 2 * (pw more * pw (i - j - more - 1)) := by
      rw [← pw_add, ← pw_add, ← pw_succ]; congr 1; omega
    have ej : pw (-j) * pw j = 1 := pw_neg_mul j
    generalize hb : i - j - (more : Int) - 1 = b at *
    have hpb := pw_pos b
    -- q n = m 2^(i-j)
    have hqn : q * n = 2 * (m * pw more) * pw b := by
      have : q * n * (pw j * pw (-j)) = m * (pw i * pw (-j)) := by grind
      rw [Rat.mul_comm (pw j), ej, eb] at this
      grind
    have g1 : K * pw b * n ≤ (q + pw b) * n := by
      have := Rat.mul_le_mul_of_nonneg_right w1' (Rat.le_of_lt hpb)
      grind
    have g2 : q * n ≤ (K * pw b + pw b) * n := by
      have := Rat.mul_le_mul_of_nonneg_right w2' (Rat.le_of_lt hpb)
      grind
    have g1 := Rat.le_of_mul_le_mul_right g1 hN
    have g2 := Rat.le_of_mul_le_mul_right g2 hN
    -- the unit is small against q
    have g3 : pw b ≤ q * pw (-(digits : Int)) := by
      have hdp := pw_pos (-(digits : Int))
      have h1 : 2 ^ (digits - 1) * n ≤ m * 2 ^ more := by
        have := Nat.mul_le_mul_right n hfl
        rw [Nat.mul_comm D] at this
        omega
      have h1' : pw (digits - 1 : Nat) * (n : Rat) ≤ (m * pw more) := by rw [pw_nat, pw_nat]; exact_mod_cast h1
      have e3 : 2 * pw (digits - 1 : Nat) * pw (-(digits : Int)) = 1 := by
        rw [← pw_succ, ← pw_add, ← pw_zero]; congr 1; omega
      have h2 : pw b * n ≤ (q * pw (-(digits : Int))) * n := by
        have a1 := Rat.mul_le_mul_of_nonneg_right h1' (Rat.le_of_lt hpb)
        have a2 := Rat.mul_le_mul_of_nonneg_right a1 (Rat.le_of_lt hdp)
        have a3 : pw b * n = 2 * (pw (digits - 1 : Nat) * n * pw b * pw (-(digits : Int))) := by
          have : 2 * (pw (digits - 1 : Nat) * n * pw b * pw (-(digits : Int))) = (2 * pw (digits - 1 : Nat) * pw (-(digits : Int))) * (pw b * n) := by grind
          rw [this, e3]; grind
        rw [a3]
        have a4 : q * pw (-(digits : Int)) * n = (q * n) * pw (-(digits : Int)) := by grind
        rw [a4, hqn]; grind
      exact Rat.le_of_mul_le_mul_right h2 hN
    constructor <;> grind

theorem quot_signed (s t : Bool) (m n : Nat) (i j : Int) (digits : Nat) (hdig : 1 ≤ digits) (hn : n ≠ 0) (q B : Rat) (hq : q * val t n j = val s m i) (h1 : q ≤ B) (h2 : -B ≤ q) :
    ∃ k b, Datum.quotient digits (.number s m i) (.number t n j) = some (.number (s ^^ t) k b) ∧ Near (val (s ^^ t) k b) q (B * pw (-(digits : Int))) := by
  obtain ⟨k, b, h3, h4⟩ := quot_val s t m n i j digits hdig hn
  refine ⟨k, b, h3, ?_⟩
  have hnp : 0 < (n : Rat) * pw j := by
    have a1 := (size_pw n j hn).1
    have a2 := pw_pos (j + n.log2)
    grind
  have hmp : 0 ≤ (m : Rat) * pw i := by
    have a1 : (0 : Rat) ≤ m := by exact_mod_cast Nat.zero_le m
    exact Rat.mul_nonneg a1 (Rat.le_of_lt (pw_pos i))
  have hd := Rat.le_of_lt (pw_pos (-(digits : Int)))
  -- the quotient's absolute value
  have key : ∀ q' : Rat, q' * ((n : Rat) * pw j) = (m : Rat) * pw i → 0 ≤ q' := by
    intro q' e
    have : 0 * ((n : Rat) * pw j) ≤ q' * ((n : Rat) * pw j) := by rw [e]; grind
    exact Rat.le_of_mul_le_mul_right this hnp
  unfold val at hq ⊢
  unfold Near
  by_cases hst : (s ^^ t) = true
  · have e : (-q) * ((n : Rat) * pw j) = (m : Rat) * pw i := by cases s <;> cases t <;> simp at * <;> grind
    have h0 := key _ e
    obtain ⟨g1, g2⟩ := h4 _ e h0
    have g3 := Rat.mul_le_mul_of_nonneg_right (show -q ≤ B by grind) hd
    rw [if_pos hst]
    constructor <;> grind
  · have e : q * ((n : Rat) * pw j) = (m : Rat) * pw i := by cases s <;> cases t <;> simp at * <;> grind
    have h0 := key _ e
    obtain ⟨g1, g2⟩ := h4 _ e h0
    have g3 := Rat.mul_le_mul_of_nonneg_right h1 hd
    rw [if_neg hst]
    constructor <;> grind

theorem val_ne_zero (t : Bool) (n : Nat) (j : Int) (h : val t n j ≠ 0) : n ≠ 0 := by
  intro e; subst e; exact h (val_zero t j)

theorem div_ok (f : Format) (he : 2 ≤ f.exponentBits) (x y : Nat) (hx : IsNum f x) (hy : IsNum f y) (hy0 : V f y ≠ 0) (q B : Rat) (hq : q * V f y = V f x) (h1 : q ≤ B) (h2 : -B ≤ q) (hB : 2 * B < pw (top f)) :
    ∃ r, f.div x y = some r ∧ IsNum f r ∧ Near (V f r) q (B * (2 * pw (-f.fractionBits)) + pw f.leastPlace) := by
  obtain ⟨s, m, i, hx⟩ := hx
  obtain ⟨t, n, j, hy⟩ := hy
  rw [V_eq hx] at *
  rw [V_eq hy] at *
  obtain ⟨k, b, h3, h4⟩ := quot_signed s t m n i j (f.fractionBits + 2) (by omega) (val_ne_zero _ _ _ hy0) q B hq h1 h2
  unfold Format.div
  rw [hx, hy, h3]
  refine ⟨_, rfl, ?_⟩
  have hu : pw (-((f.fractionBits + 2 : Nat) : Int)) = pw (-(f.fractionBits : Int)) / 4 := by
    have : pw (-(f.fractionBits : Int)) = 2 * (2 * pw (-((f.fractionBits + 2 : Nat) : Int))) := by rw [← pw_succ, ← pw_succ]; congr 1; omega
    rw [this]; grind
  rw [hu] at h4
  have hup := pw_pos (-(f.fractionBits : Int))
  have hu1 : pw (-(f.fractionBits : Int)) ≤ 1 := by rw [← pw_zero]; exact pw_le (by omega)
  have hB0 : 0 ≤ B := by grind
  have hBu := Rat.mul_le_mul_of_nonneg_left hu1 hB0
  obtain ⟨n1, n2⟩ := h4
  have hw := write_ok f he (s ^^ t) k b (B + B * (pw (-(f.fractionBits : Int)) / 4)) (by grind) (by grind) (by grind)
  refine ⟨hw.1, ?_⟩
  obtain ⟨w1, w2⟩ := hw.2
  have hlp := pw_pos f.leastPlace
  have hBuu := Rat.mul_le_mul_of_nonneg_right hBu (Rat.le_of_lt hup)
  have := Rat.mul_nonneg hB0 (Rat.le_of_lt hup)
  generalize pw (-(f.fractionBits : Int)) = u at *
  generalize pw f.leastPlace = l at *
  unfold Near
  constructor <;> grind

theorem read_bound (f : Format) (he : 2 ≤ f.exponentBits) (b : Nat) (s : Bool) (m : Nat) (p : Int) (h : f.read b = .number s m p) :
    m < 2 ^ (f.fractionBits + 1) ∧ f.leastPlace ≤ p ∧ p ≤ f.leastPlace + ((2 ^ f.exponentBits : Nat) - 3) := by
  have h4 : 4 ≤ 2 ^ f.exponentBits := by
    have := Nat.pow_le_pow_right (n := 2) (by omega) he
    simpa using this
  have hb := bin_pos f
  have hb1 : 2 ^ (f.fractionBits + 1) = 2 * f.binade := by rw [Nat.pow_succ, Nat.mul_comm]; rfl
  unfold Format.read at h
  simp only at h
  split at h
  · cases h; omega
  · split at h
    · rename_i h1 h2
      cases h
      have h3 := Nat.mod_lt (b % f.signWeight) hb
      have h5 : b % f.signWeight / f.binade < 2 ^ f.exponentBits - 1 := by
        rw [Nat.div_lt_iff_lt_mul hb]; exact h2
      omega
    · split at h <;> cases h

/-! ### comparisons -/
theorem pw_mul_le (a b : Int) (p : Int) : ((a : Rat) * pw p ≤ (b : Rat) * pw p) ↔ a ≤ b := by
  have hp := pw_pos p
  constructor
  · intro h
    have := Rat.le_of_mul_le_mul_right h hp
    exact_mod_cast this
  · intro h
    have h' : (a : Rat) ≤ (b : Rat) := by exact_mod_cast h
    exact Rat.mul_le_mul_of_nonneg_right h' (Rat.le_of_lt hp)

theorem order_num (f : Format) (x y : Nat) (hx : IsNum f x) (hy : IsNum f y) :
    (f.order x y = some .lt ↔ V f x < V f y) ∧ (f.order x y = some .eq ↔ V f x = V f y) ∧ (f.order x y = some .gt ↔ V f y < V f x) := by
  obtain ⟨s, m, i, hx⟩ := hx
  obtain ⟨t, n, j, hy⟩ := hy
  rw [V_eq hx, V_eq hy]
  unfold Format.order
  rw [hx, hy]
  unfold Datum.order
  simp only
  have e1 := signed_val s m i (min i j) (by omega)
  have e2 := signed_val t n j (min i j) (by omega)
  generalize signed s m (i - min i j).toNat = a at *
  generalize signed t n (j - min i j).toNat = b at *
  rw [← e1, ← e2]
  have l1 := pw_mul_le a b (min i j)
  have l2 := pw_mul_le b a (min i j)
  simp only [Option.some.injEq, Int.compare_eq_lt, Int.compare_eq_eq, Int.compare_eq_gt]
  generalize (a : Rat) * pw (min i j) = A at *
  generalize (b : Rat) * pw (min i j) = C at *
  refine ⟨?_, ?_, ?_⟩ <;> constructor <;> intro h <;> grind

/-- written, it is an infinity of its sign, or a number near what was meant -/
theorem write_or (f : Format) (hb : f.binade ≤ f.infRung) (s : Bool) (m : Nat) (p : Int) (B : Rat) (h1 : val s m p ≤ B) (h2 : -B ≤ val s m p) :
    f.read (f.write (.number s m p)) = .infinity s ∨ (IsNum f (f.write (.number s m p)) ∧ Near (V f (f.write (.number s m p))) (val s m p) ((B * pw (-f.fractionBits) + pw f.leastPlace) / 2)) := by
  have hm := val_abs s m p B h1 h2
  have hw : f.write (.number s m p) = f.nearest s m p := rfl
  rw [hw]
  by_cases h : m = 0
  · right
    subst h
    have : f.nearest s 0 p = f.word s 0 := by unfold Format.nearest; simp
    rw [this]
    refine ⟨⟨_, _, _, zero_read f s⟩, ?_⟩
    rw [V_eq (zero_read f s), val_zero, val_zero]
    rw [val_zero] at h1
    have a1 := pw_pos f.leastPlace
    have a2 := Rat.mul_nonneg h1 (Rat.le_of_lt (pw_pos (-(f.fractionBits : Int))))
    unfold Near; constructor <;> grind
  · by_cases hr : rungOf f s m p < f.infRung
    · right
      obtain ⟨m', p', g1, g2, g3, g4⟩ := read_nearest f s m p h hr
      refine ⟨⟨_, _, _, g1⟩, ?_⟩
      rw [V_eq g1]
      obtain ⟨n1, n2⟩ := kept_near f s m p
      have h6 := last_half f m p h
      rw [← g2] at n1 n2
      obtain ⟨k1, k2⟩ := val_near s m m' p p' _ n1 n2
      have := Rat.mul_le_mul_of_nonneg_right hm (Rat.le_of_lt (pw_pos (-(f.fractionBits : Int))))
      unfold Near
      constructor <;> grind
    · left
      rw [nearest_eq f s m p h, Nat.min_eq_right (by omega), read_word_inf, if_neg (by omega)]

end Flo
end Go.Proofs.YtjmignhcfmdcaaaDoor
