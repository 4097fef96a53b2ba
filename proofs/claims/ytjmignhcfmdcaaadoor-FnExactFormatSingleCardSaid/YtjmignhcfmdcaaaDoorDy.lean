/- Plain facts on numbers of double precision that are integers times a power of two: their sums, differences and products, and quotients by a power of two, are exact. No program stands in it.
   Conditions: those that each statement names. -/
import Derived.Test.YtjmignhcfmdcaaaDoorSps
import Derived.Test.YtjmignhcfmdcaaaDoorQuo
namespace Go.Proofs.YtjmignhcfmdcaaaDoor.Flo
set_option linter.unusedSimpArgs false
set_option linter.unusedVariables false
open Go Ieee

/-- a number that is n times 2^e -/
def Dy (e n : Int) (b : Nat) : Prop := Nm b ∧ W b = (n : Rat) * pw e

theorem natAbs_rat (n : Int) : ((n.natAbs : Nat) : Rat) = if n < 0 then -(n : Rat) else (n : Rat) := by
  split
  · rename_i h
    have : ((n.natAbs : Nat) : Int) = -n := by omega
    rw [← Rat.intCast_natCast, this]; push_cast; rfl
  · rename_i h
    have : ((n.natAbs : Nat) : Int) = n := by omega
    rw [← Rat.intCast_natCast, this]

theorem write_dy (s : Bool) (m : Nat) (p : Int) (e n : Int) (h : val s m p = (n : Rat) * pw e) (hn : n.natAbs < 9007199254740992) (he : -1074 ≤ e) (he2 : e ≤ 970) :
    Dy e n (Ieee.double.write (.number s m p)) := by
  have a1 : (0 : Rat) ≤ (m : Rat) * pw p := by
    have a1 : (0 : Rat) ≤ m := by exact_mod_cast Nat.zero_le m
    exact Rat.mul_nonneg a1 (Rat.le_of_lt (pw_pos p))
  have hk : (m : Rat) * pw p = ((n.natAbs : Nat) : Rat) * pw e := by
    rw [natAbs_rat]
    have pe := pw_pos e
    unfold val at h
    by_cases hn0 : n < 0
    · have hn1 : (n : Rat) < 0 := by exact_mod_cast hn0
      have := Rat.mul_pos (show 0 < -(n : Rat) by grind) pe
      rw [if_pos hn0]
      cases s <;> simp at h <;> grind
    · have hn1 : 0 ≤ (n : Rat) := by exact_mod_cast (show (0 : Int) ≤ n by omega)
      have := Rat.mul_nonneg hn1 (Rat.le_of_lt pe)
      rw [if_neg hn0]
      cases s <;> simp at h <;> grind
  have hB : (m : Rat) * pw p < pw (top Ieee.double) := by
    rw [hk, top_double]
    by_cases h0 : n.natAbs = 0
    · rw [h0]; have := pw_pos 1023; simp; grind
    · have b1 := (size_pw n.natAbs e h0).2
      have b2 : n.natAbs.log2 < 53 := (Nat.log2_lt h0).2 hn
      have b3 := pw_le (show e + (n.natAbs.log2 : Int) + 1 ≤ 1023 by omega)
      grind
  obtain ⟨m', p', w1, -, -, w4⟩ := write_exact Ieee.double (by decide) s m p n.natAbs e hk hn (by rw [lp_double]; omega) hB
  refine ⟨⟨_, _, _, w1⟩, ?_⟩
  rw [show W (Ieee.double.write (.number s m p)) = _ from V_eq w1, ← h]
  unfold val
  rw [w4]

theorem dy_int (n : Int) (hn : n.natAbs < 9007199254740992) : Dy 0 n (floatOfInt .f64 n) := by
  obtain ⟨h1, h2⟩ := int_double n hn
  exact ⟨h1, by rw [h2, pw_zero]; grind⟩

theorem dy_add {e m n : Int} {x y : Nat} (hx : Dy e m x) (hy : Dy e n y) (h : (m + n).natAbs < 9007199254740992) (he : -1074 ≤ e) (he2 : e ≤ 970) :
    ∃ r, floatBits .add .f64 x y = some r ∧ Dy e (m + n) r := by
  obtain ⟨⟨s, a, i, hx⟩, vx⟩ := hx
  obtain ⟨⟨t, b, j, hy⟩, vy⟩ := hy
  obtain ⟨q, k, c, h3, h4⟩ := sum_val s t a b i j
  rw [show W x = _ from V_eq hx] at vx
  rw [show W y = _ from V_eq hy] at vy
  show ∃ r, Ieee.double.add x y = some r ∧ _
  unfold Format.add
  rw [hx, hy, h3]
  exact ⟨_, rfl, write_dy q k c e (m + n) (by rw [h4, vx, vy]; push_cast; grind) h he he2⟩

theorem dy_sub {e m n : Int} {x y : Nat} (hx : Dy e m x) (hy : Dy e n y) (h : (m - n).natAbs < 9007199254740992) (he : -1074 ≤ e) (he2 : e ≤ 970) :
    ∃ r, floatBits .sub .f64 x y = some r ∧ Dy e (m - n) r := by
  obtain ⟨⟨s, a, i, hx⟩, vx⟩ := hx
  obtain ⟨⟨t, b, j, hy⟩, vy⟩ := hy
  obtain ⟨q, k, c, h3, h4⟩ := sum_val s (!t) a b i j
  rw [val_opp] at h4
  rw [show W x = _ from V_eq hx] at vx
  rw [show W y = _ from V_eq hy] at vy
  show ∃ r, Ieee.double.sub x y = some r ∧ _
  unfold Format.sub
  rw [hx, hy, show (Datum.number t b j).opposite = .number (!t) b j from rfl, h3]
  exact ⟨_, rfl, write_dy q k c e (m - n) (by rw [h4, vx, vy]; push_cast; grind) h he he2⟩

theorem dy_mul {e f m n : Int} {x y : Nat} (hx : Dy e m x) (hy : Dy f n y) (h : (m * n).natAbs < 9007199254740992) (he : -1074 ≤ e + f) (he2 : e + f ≤ 970) :
    ∃ r, floatBits .mul .f64 x y = some r ∧ Dy (e + f) (m * n) r := by
  obtain ⟨⟨s, a, i, hx⟩, vx⟩ := hx
  obtain ⟨⟨t, b, j, hy⟩, vy⟩ := hy
  rw [show W x = _ from V_eq hx] at vx
  rw [show W y = _ from V_eq hy] at vy
  show ∃ r, Ieee.double.mul x y = some r ∧ _
  unfold Format.mul
  rw [hx, hy, show Datum.product (.number s a i) (.number t b j) = some (.number (s ^^ t) (a * b) (i + j)) from rfl]
  exact ⟨_, rfl, write_dy _ _ _ _ _ (by rw [val_mul, vx, vy, pw_add]; push_cast; grind) h he he2⟩

/-- a quotient by 2^d -/
theorem dy_div {e n d : Int} {x y : Nat} (hx : Dy e n x) (hy : Ieee.double.read y = .number false 4503599627370496 (d - 52)) (hn : n.natAbs < 9007199254740992) (he : -1074 ≤ e - d) (he2 : e - d ≤ 970) :
    ∃ r, floatBits .quo .f64 x y = some r ∧ Dy (e - d) n r := by
  obtain ⟨⟨s, m, p, hx⟩, vx⟩ := hx
  rw [show W x = _ from V_eq hx] at vx
  obtain ⟨b1, b2, b3⟩ := read_bound Ieee.double (by decide) x s m p hx
  have hm53 : m < 9007199254740992 := b1
  unfold floatBits Ieee.Format.div
  show ∃ r, Option.map Ieee.double.write (Datum.quotient _ (Ieee.double.read x) (Ieee.double.read y)) = some r ∧ _
  rw [hx, hy]
  have hval : val s m (p - d) = (n : Rat) * pw (e - d) := by
    have e1 : val s m (p - d) = val s m p * pw (-d) := by unfold val; rw [show p - d = p + -d from by omega, pw_add]; grind
    rw [e1, vx, show e - d = e + -d from by omega, pw_add]; grind
  by_cases hm : m = 0
  · subst hm
    simp only [Datum.quotient]
    rw [if_neg (by decide)]
    simp only [Nat.zero_shiftLeft, Nat.zero_div, Nat.zero_mod, bne_self_eq_false, Bool.toNat_false, Option.map_some, Bool.xor_false]
    exact ⟨_, rfl, write_dy _ _ _ _ _ (by rw [← hval, val_zero, val_zero]) hn he he2⟩
  · have hl : m.log2 ≤ 52 := by
      have : m.log2 < 53 := (Nat.log2_lt hm).2 (by simpa using hm53)
      omega
    have hl2 : Nat.log2 4503599627370496 = 52 := by decide
    simp only [Datum.quotient]
    rw [if_neg (by decide), hl2]
    rw [show (FloatKind.f64.format.fractionBits + 2 + 52 - m.log2 : Nat) = 52 + (54 - m.log2) from by
      have : FloatKind.f64.format.fractionBits = 52 := rfl
      omega]
    generalize hk : 54 - m.log2 = k
    have e1 : m <<< (52 + k) = m * 2 ^ k * 4503599627370496 := by
      rw [Nat.shiftLeft_eq, Nat.add_comm, Nat.pow_add, Nat.mul_assoc]
    rw [e1, Nat.mul_div_cancel _ (by decide), Nat.mul_mod_left]
    simp only [bne_self_eq_false, Bool.toNat_false, Nat.add_zero, Option.map_some, Bool.xor_false]
    have hv : ((2 * (m * 2 ^ k) : Nat) : Rat) * pw (p - (d - 52) - ((52 + k : Nat) : Int) - 1) = (m : Rat) * pw (p - d) := by
      have e : pw (p - d) = pw ((k + 1 : Nat) : Int) * pw (p - (d - 52) - ((52 + k : Nat) : Int) - 1) := by rw [← pw_add]; congr 1; omega
      rw [e, pw_nat, Nat.pow_succ]
      push_cast
      grind
    refine ⟨_, rfl, write_dy _ _ _ _ _ ?_ hn he he2⟩
    rw [← hval]
    unfold val
    rw [hv]

end Go.Proofs.YtjmignhcfmdcaaaDoor.Flo
