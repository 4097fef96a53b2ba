/- A small number less any number of single precision is a number of single precision.
   Conditions: those that each statement names. -/
import Derived.Test.YtfgofmcpgfofaaaBowN
import Derived.Test.YtfgofmcpgfofaaaMono
namespace Go.Proofs.Ytfgofmcpgfofaaa
open Go Go.RowKit

def mx : Nat := 340282346638528859811704183484516925449
theorem mx_kept : Flo.keptOf Ieee.single false mx 0 = 16777215 ∧ Flo.lastOf Ieee.single mx 0 = 104 := by decide +kernel
theorem mx_eq : ((mx : Nat) : Rat) = 9 + 16777215 * Flo.pw 104 := by
  rw [show Flo.pw 104 = ((2 ^ 104 : Nat) : Rat) from Flo.pw_nat 104]
  have : mx = 9 + 16777215 * 2 ^ 104 := by decide
  rw [this]; push_cast; grind
theorem fit_write (q : Bool) (k : Nat) (e : Int) (h : (k : Rat) * Flo.pw e ≤ ((mx : Nat) : Rat)) : Sm (Ieee.single.write (.number q k e)) := by
  have hw : Ieee.single.write (.number q k e) = Ieee.single.nearest q k e := rfl
  rw [hw]
  by_cases h0 : k = 0
  · subst h0
    have : Ieee.single.nearest q 0 e = Ieee.single.word q 0 := by unfold Ieee.Format.nearest; simp
    rw [this]
    exact ⟨_, _, _, Flo.zero_read _ _⟩
  · have hm0 : (mx : Nat) ≠ 0 := by decide
    have hmono := Flo.kept_mono Ieee.single q false k mx e 0 h0 hm0 (by rw [Flo.pw_zero]; grind)
    rw [mx_kept.1, mx_kept.2] at hmono
    have hlast : Flo.lastOf Ieee.single k e ≤ 104 := by
      have z1 := (Flo.size_pw k e h0).1
      have z2 : ((mx : Nat) : Rat) < Flo.pw 128 := by
        rw [show Flo.pw 128 = ((2 ^ 128 : Nat) : Rat) from Flo.pw_nat 128]
        exact_mod_cast (by decide : mx < 2 ^ 128)
      have z3 : e + (k.log2 : Int) < 128 := Flo.lt_of_pw_lt (by grind)
      have e1 : Ieee.single.leastPlace = -149 := by decide
      have e2 : Ieee.single.fractionBits = 23 := rfl
      unfold Flo.lastOf
      omega
    have hb : Ieee.single.binade = 8388608 := by decide
    have hi : Ieee.single.infRung = 255 * 8388608 := by decide
    have e1 : Ieee.single.leastPlace = -149 := by decide
    have hkl := Flo.kept_le Ieee.single q k e h0
    have hr : Flo.rungOf Ieee.single q k e < Ieee.single.infRung := by
      have hcase : Flo.lastOf Ieee.single k e = 104 → Flo.keptOf Ieee.single q k e ≤ 16777215 := by
        intro hl
        rw [hl] at hmono
        refine Flo.le_nat_of _ _ 104 ?_
        have := Flo.pw_pos 104
        grind
      have hkl' : Flo.keptOf Ieee.single q k e ≤ 16777216 := hkl
      unfold Flo.rungOf
      rw [hb, hi, e1]
      generalize Flo.lastOf Ieee.single k e = l at *
      generalize Flo.keptOf Ieee.single q k e = c at *
      by_cases hl : l = 104
      · have := hcase hl
        subst hl
        show (104 - -149 : Int).toNat * 8388608 + c < 255 * 8388608
        have e : (104 - -149 : Int).toNat = 253 := by decide
        rw [e]; omega
      · have hl2 : (l - -149).toNat ≤ 252 := by omega
        have := Nat.mul_le_mul_right 8388608 hl2
        omega
    obtain ⟨m', p', h1, -, -, -⟩ := Flo.read_nearest Ieee.single q k e h0 hr
    exact ⟨_, _, _, h1⟩
theorem fit_sub (x b : Nat) (hx : Sm x) (hb : Sm b) (h8 : Flo.Ab (S x) 9) : Calm .sub .f32 x b ∧ Sm (opB .sub .f32 x b) := by
  obtain ⟨s, m, i, hx⟩ := hx
  obtain ⟨t, n, j, hb⟩ := hb
  obtain ⟨n1, n2, n3⟩ := single_bound hb
  obtain ⟨q, k, e, h1, h2⟩ := Flo.sum_val s (!t) m n i j
  rw [show S x = Flo.val s m i from Flo.V_eq hx] at h8
  have hs : floatBits .sub .f32 x b = some (Ieee.single.write (.number q k e)) := by
    show Ieee.single.sub x b = _
    unfold Ieee.Format.sub
    rw [hx, hb]
    show (Ieee.Datum.sum (.number s m i) (.number (!t) n j)).map _ = _
    rw [h1]; rfl
  have hn : (n : Rat) * Flo.pw j ≤ 16777215 * Flo.pw 104 := by
    have hm : (n : Rat) ≤ ((16777215 : Nat) : Rat) := by exact_mod_cast (by omega : n ≤ 16777215)
    have hm' : (n : Rat) ≤ 16777215 := hm
    have q1 := Rat.mul_le_mul_of_nonneg_right hm' (Rat.le_of_lt (Flo.pw_pos j))
    have q2 := Rat.mul_le_mul_of_nonneg_left (Flo.pw_le n3) (show (0 : Rat) ≤ 16777215 by grind)
    grind
  have hk : (k : Rat) * Flo.pw e ≤ ((mx : Nat) : Rat) := by
    rw [mx_eq]
    have hp := Flo.mag_nonneg n j
    unfold Flo.val at h2 h8
    unfold Flo.Ab at h8
    generalize (n : Rat) * Flo.pw j = N at *
    generalize (k : Rat) * Flo.pw e = K at *
    generalize (m : Rat) * Flo.pw i = M at *
    cases q <;> cases t <;> cases s <;> simp at h2 h8 <;> grind
  obtain ⟨c, eq⟩ := Calm.of hs
  rw [eq]
  exact ⟨c, fit_write q k e hk⟩
end Go.Proofs.Ytfgofmcpgfofaaa
