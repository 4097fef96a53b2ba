/- math.Frexp and math.Ldexp(.., 53), bits.TrailingZeros64: the odd part of a number above 0.
   Conditions: those that each statement names. -/
import Derived.Test.YtjmignhcfmdcaaaDoorBits
import Derived.Test.YtjmignhcfmdcaaaDoorNum
import Derived.Test.YtjmignhcfmdcaaaDoorInj
import Derived.Test.YtjmignhcfmdcaaaDoorFmtU
import Derived.Shelf.Spec.TrailingZeros
namespace Go.Proofs.YtjmignhcfmdcaaaDoor
set_option linter.unusedSimpArgs false
set_option linter.unusedVariables false
open Go Go.RowKit

/-! ### normalize -/
def NorP (sg : Bool) (m : Nat) (p : Int) (w : World) (e : Ending) (w' : World) : Prop :=
  ∃ (X s E F : Nat) (z : Int), e = .returned (.tuple #[.float .f64 X, .int .i64 z]) ∧ X = s * 9223372036854775808 + (E * 4503599627370496 + F) ∧ s < 2 ∧ sg = (s == 1) ∧ 1 ≤ E ∧ E < 2047 ∧ F < 4503599627370496 ∧ (z = 0 ∨ z = -52) ∧
    ((4503599627370496 + F : Nat) : Rat) * Flo.pw ((E : Int) - 1075 + z) = (m : Rat) * Flo.pw p ∧ ∃ n, w' = w.drewN n

theorem read_min : Ieee.double.read 4503599627370496 = .number false 4503599627370496 (-1074) := by decide
theorem V_min : Flo.V Ieee.double 4503599627370496 = Flo.pw (-1022) := by
  rw [Flo.V_eq read_min]; unfold Flo.val
  rw [show (-1022 : Int) = -1074 + (52 : Nat) from by omega, Flo.pw_add, Flo.pw_nat]
  simp
  grind

theorem lt_min (x m : Nat) (sg : Bool) (p : Int) (h : Ieee.double.read x = .number sg m p) :
    (FloatKind.f64.format.order (x % signBit) 4503599627370496 == some .lt) = decide ((m : Rat) * Flo.pw p < Flo.pw (-1022)) := by
  have hr : Ieee.double.read (x % signBit) = .number false m p := by
    show FloatKind.f64.decode (x % signBit) = _
    rw [mod_read, show FloatKind.f64.decode x = _ from h]
  have o := Flo.order_num Ieee.double (x % signBit) 4503599627370496 ⟨_, _, _, hr⟩ ⟨_, _, _, read_min⟩
  have e1 : Flo.V Ieee.double (x % signBit) = (m : Rat) * Flo.pw p := by rw [Flo.V_eq hr]; unfold Flo.val; simp
  rw [e1, V_min] at o
  show (Ieee.double.order _ _ == some .lt) = _
  by_cases hlt : (m : Rat) * Flo.pw p < Flo.pw (-1022)
  · rw [decide_eq_true hlt, o.1.2 hlt]; rfl
  · rw [decide_eq_false hlt]
    cases hg : (Ieee.double.order (x % signBit) 4503599627370496 == some .lt) with
    | false => rfl
    | true => exact absurd (o.1.1 (by simpa using hg)) hlt

theorem scale_up (x m : Nat) (sg : Bool) (hx : Ieee.double.read x = .number sg m (-1074)) (hm : m ≠ 0) (hm2 : m < 4503599627370496) :
    ∃ s E F : Nat, floatBits .mul .f64 x 4841369599423283200 = some (s * 9223372036854775808 + (E * 4503599627370496 + F)) ∧ s < 2 ∧ sg = (s == 1) ∧ 1 ≤ E ∧ E < 2047 ∧ F < 4503599627370496 ∧ ((4503599627370496 + F : Nat) : Rat) * Flo.pw ((E : Int) - 1075 + -52) = (m : Rat) * Flo.pw (-1074) := by
  have r52 : Ieee.double.read 4841369599423283200 = .number false 4503599627370496 0 := by decide
  have e : floatBits .mul .f64 x 4841369599423283200 = some (Ieee.double.write (.number sg (m * 4503599627370496) (-1074 + 0))) := by
    show Ieee.double.mul x _ = _
    unfold Ieee.Format.mul
    rw [hx, r52]
    cases sg <;> rfl
  have hv : ((m * 4503599627370496 : Nat) : Rat) * Flo.pw (-1074 + 0) = (m : Rat) * Flo.pw (-1022) := by
    rw [show (-1022 : Int) = -1074 + 0 + (52 : Nat) from by omega, Flo.pw_add (-1074 + 0), Flo.pw_nat]
    have : ((2 ^ 52 : Nat) : Rat) = ((4503599627370496 : Nat) : Rat) := rfl
    rw [this]; push_cast; grind
  have hm3 : (m : Rat) < 4503599627370496 := by exact_mod_cast hm2
  have hm1 : (1 : Rat) ≤ (m : Rat) := by exact_mod_cast Nat.pos_of_ne_zero hm
  have p22 := Flo.pw_pos (-1022)
  obtain ⟨m', p', w1, w2, w3, w4⟩ := Flo.write_exact Ieee.double (by decide) sg _ _ m (-1022) hv (by
    have : 2 ^ (Ieee.double.fractionBits + 1) = 9007199254740992 := by decide
    omega) (by rw [Flo.lp_double]; omega) (by
    rw [hv, Flo.top_double]
    have l : Flo.pw (-1022 + (52 : Nat)) < Flo.pw 1023 := Flo.pw_lt (by omega)
    rw [Flo.pw_add, Flo.pw_nat] at l
    have e52 : ((2 ^ 52 : Nat) : Rat) = 4503599627370496 := rfl
    rw [e52] at l
    have := Rat.mul_lt_mul_of_pos_right hm3 p22
    grind)
  obtain ⟨s, hs, hsg, hc⟩ := word_cases _ m' sg p' (Ieee.Format.write_lt _ _) w1
  rcases hc with ⟨hx1, hs1, hs2⟩ | ⟨E, F, hx1, k1, k2, k3, k4, k5⟩
  · exfalso
    rw [hs2, hv] at w4
    have h1 : (m' : Rat) < 4503599627370496 := by exact_mod_cast hs1
    have p74 := Flo.pw_pos (-1074)
    have h2 := Rat.mul_lt_mul_of_pos_right h1 p74
    have h3 := Rat.mul_le_mul_of_nonneg_right hm1 (Rat.le_of_lt p22)
    have h4 : Flo.pw (-1022) = 4503599627370496 * Flo.pw (-1074) := by
      rw [show (-1022 : Int) = -1074 + (52 : Nat) from by omega, Flo.pw_add, Flo.pw_nat]
      rw [show ((2 ^ 52 : Nat) : Rat) = 4503599627370496 from rfl]; grind
    grind
  · refine ⟨s, E, F, by rw [e, hx1], hs, hsg, k1, k2, k3, ?_⟩
    rw [hv, k4, k5] at w4
    rw [Flo.pw_add ((E : Int) - 1075)]
    rw [show ((m : Nat) : Rat) * Flo.pw (-1074) = (m : Rat) * (Flo.pw (-1022) * Flo.pw (-52)) from by rw [← Flo.pw_add]; rfl]
    grind

set_option maxRecDepth 100000 in
theorem normalize_ok (x m : Nat) (sg : Bool) (p : Int) (hx : x < 18446744073709551616) (h : Ieee.double.read x = .number sg m p) (hm : m ≠ 0) (w : World) :
    Calls Tryd.prog 57 #[.float .f64 x] w (NorP sg m p w) := by
  have hlt := lt_min x m sg p h
  obtain ⟨s, hs, hsg, hc⟩ := word_cases x m sg p hx h
  have p0 := Flo.pw_pos (-1022)
  have hx' : x < 2 ^ 64 := hx
  rcases hc with ⟨hx1, hm2, hp⟩ | ⟨E, F, hx1, k1, k2, k3, k4, k5⟩
  · have hsub : (m : Rat) * Flo.pw p < Flo.pw (-1022) := by
      rw [hp]
      have h1 : (m : Rat) < 4503599627370496 := by exact_mod_cast hm2
      have h2 := Rat.mul_lt_mul_of_pos_right h1 (Flo.pw_pos (-1074))
      have h4 : Flo.pw (-1022) = 4503599627370496 * Flo.pw (-1074) := by
        rw [show (-1022 : Int) = -1074 + (52 : Nat) from by omega, Flo.pw_add, Flo.pw_nat]
        rw [show ((2 ^ 52 : Nat) : Rat) = 4503599627370496 from rfl]; grind
      grind
    rw [decide_eq_true hsub] at hlt
    subst hp
    obtain ⟨s', E, F, z1, z2, z3, z4, z5, z6, z7⟩ := scale_up x m sg h hm hm2
    have r1 : ∀ w, fres w .mul .f64 x 4841369599423283200 = s' * 9223372036854775808 + (E * 4503599627370496 + F) := fun w => by unfold fres; rw [z1]
    have r2 : fdr .mul .f64 x 4841369599423283200 = 0 := by unfold fdr; rw [z1]; rfl
    have Z := Lib.hid (And.intro z2 (And.intro z3 (And.intro z4 (And.intro z5 (And.intro z6 z7)))))
    clear z1 z2 z3 z4 z5 z6 z7 hsub h p0 hx1 hsg hm2 hs
    go_enter Tryd.func57, Tryd.ntmps57
    go_wp2_with (go_at_call 23; refine (abs_any _ _ hx').mono ?_; rintro e w' ⟨rfl, rfl⟩)
    go_ret2
    exact ⟨_, s', E, F, -52, rfl, rfl, Z.out.1, Z.out.2.1, Z.out.2.2.1, Z.out.2.2.2.1, Z.out.2.2.2.2.1, .inr rfl, Z.out.2.2.2.2.2, 0, rfl⟩
  · have hnor : ¬ (m : Rat) * Flo.pw p < Flo.pw (-1022) := by
      rw [k4, k5]
      have l := Flo.pw_le (show (-1074 : Int) ≤ (E : Int) - 1075 by omega)
      have h1 : (4503599627370496 : Rat) ≤ ((4503599627370496 + F : Nat) : Rat) := by exact_mod_cast Nat.le_add_right _ F
      have h3 := Rat.mul_le_mul_of_nonneg_right h1 (Rat.le_of_lt (Flo.pw_pos ((E : Int) - 1075)))
      have h4 : Flo.pw (-1022) = 4503599627370496 * Flo.pw (-1074) := by
        rw [show (-1022 : Int) = -1074 + (52 : Nat) from by omega, Flo.pw_add, Flo.pw_nat]
        rw [show ((2 ^ 52 : Nat) : Rat) = 4503599627370496 from rfl]; grind
      grind
    rw [decide_eq_false hnor] at hlt
    have Z := Lib.hid (And.intro hs (And.intro hsg (And.intro k1 (And.intro k2 k3))))
    have X := Lib.hid (And.intro hx1 (And.intro k4 k5))
    clear hs hsg k1 k2 k3 hnor h p0 hx1 k4 k5
    go_enter Tryd.func57, Tryd.ntmps57
    go_wp2_with (go_at_call 23; refine (abs_any _ _ hx').mono ?_; rintro e w' ⟨rfl, rfl⟩)
    go_ret2
    exact ⟨x, s, E, F, 0, rfl, X.out.1, Z.out.1, Z.out.2.1, Z.out.2.2.1, Z.out.2.2.2.1, Z.out.2.2.2.2, .inl rfl, by rw [X.out.2.1, X.out.2.2, Int.add_zero], 0, rfl⟩

/-! ### Frexp -/
theorem ne0_num (x m : Nat) (sg : Bool) (p : Int) (h : Ieee.double.read x = .number sg m p) (hm : m ≠ 0) : (FloatKind.f64.format.order x 0 == some .eq) = false := by
  have o := Flo.order_num Ieee.double x 0 ⟨_, _, _, h⟩ zero_num.1
  rw [show Flo.V Ieee.double 0 = 0 from zero_num.2, Flo.V_eq h] at o
  cases hg : (FloatKind.f64.format.order x 0 == some .eq) with
  | false => rfl
  | true =>
    exfalso
    have h0 := o.2.1.1 (show FloatKind.f64.format.order x 0 = some .eq by simpa using hg)
    apply hm
    apply Flo.mag_zero (p := p)
    unfold Flo.val at h0
    cases sg <;> simp at h0 <;> grind
theorem and_exp (s E F : Nat) (hs : s < 2) (hE : E < 2047) (hF : F < 4503599627370496) : bits .and .u64 (((s * 9223372036854775808 + (E * 4503599627370496 + F) : Nat) : Int) / 4503599627370496) 2047 = (E : Int) := by
  have k : (s * 2048 + E) % 2048 = E := by omega
  have e : ((s * 9223372036854775808 + (E * 4503599627370496 + F) : Nat) : Int) / 4503599627370496 = ((s * 2048 + E : Nat) : Int) := by omega
  have e2 := u64_and_nat (s * 2048 + E) 2047 (by omega) (by decide)
  rw [nat_mask11, k] at e2
  exact (congrArg (fun v => bits .and .u64 v 2047) e).trans e2
theorem clr_word (s E F : Nat) (hs : s < 2) (hE : E < 2047) (hF : F < 4503599627370496) : bits .andNot .u64 ((s * 9223372036854775808 + (E * 4503599627370496 + F) : Nat) : Int) 9218868437227405312 = ((s * 9223372036854775808 + F : Nat) : Int) := by
  rw [clr _ (by omega)]
  have h1 : (s * 9223372036854775808 + (E * 4503599627370496 + F)) / 9223372036854775808 = s := by omega
  have h2 : (s * 9223372036854775808 + (E * 4503599627370496 + F)) % 4503599627370496 = F := by clear h1; omega
  rw [h1, h2]

def FrxP (sg : Bool) (m : Nat) (p : Int) (w : World) (e : Ending) (w' : World) : Prop :=
  ∃ (X s E F : Nat) (z : Int), e = .returned (.tuple #[.float .f64 X, .int .i64 (z + ((E : Int) - 1023 + 1))]) ∧ X = s * 9223372036854775808 + (1022 * 4503599627370496 + F) ∧ s < 2 ∧ sg = (s == 1) ∧ 1 ≤ E ∧ E < 2047 ∧ F < 4503599627370496 ∧ (z = 0 ∨ z = -52) ∧
    ((4503599627370496 + F : Nat) : Rat) * Flo.pw ((E : Int) - 1075 + z) = (m : Rat) * Flo.pw p ∧ ∃ n, w' = w.drewN n

set_option maxRecDepth 100000 in
theorem frexp_inner (x m : Nat) (sg : Bool) (p : Int) (hx : x < 18446744073709551616) (h : Ieee.double.read x = .number sg m p) (hm : m ≠ 0) (w : World) :
    Calls Tryd.prog 45 #[.float .f64 x] w (FrxP sg m p w) := by
  have h0 := ne0_num x m sg p h hm
  have hx' : x < 2 ^ 64 := hx
  have hi : (FloatKind.f64.decode x).isInfinity = false := by rw [show FloatKind.f64.decode x = _ from h]; rfl
  have hn : (FloatKind.f64.decode x).isNaN = false := by rw [show FloatKind.f64.decode x = _ from h]; rfl
  have H := Lib.hid (And.intro h hm)
  clear h hm
  go_enter Tryd.func45, Tryd.ntmps45
  go_wp2_with (first
    | (go_at_call 32; refine (isInf_any _ _ hx').mono ?_; rintro e w' ⟨rfl, rfl⟩; rw [hi])
    | (go_at_call 31; refine (isNaN_any _ _).mono ?_; rintro e w' ⟨rfl, rfl⟩; rw [hn]))
  go_at_call 57
  refine (normalize_ok x m sg p hx H.out.1 H.out.2 _).mono ?_
  rintro e w' ⟨X, s, E, F, z, rfl, hX, h1, h2, h3, h4, h5, h6, h7, n, rfl⟩
  obtain ⟨Y, hY⟩ : ∃ Y : Nat, Y = s * 9223372036854775808 + F := ⟨_, rfl⟩
  obtain ⟨Z, hZ⟩ : ∃ Z : Nat, Z = s * 9223372036854775808 + (1022 * 4503599627370496 + F) := ⟨_, rfl⟩
  have a1 : bits .and .u64 ((X : Int) / 4503599627370496) 2047 = (E : Int) := by rw [hX]; exact and_exp s E F h1 h4 h5
  have a2 : bits .andNot .u64 (X : Int) 9218868437227405312 = (Y : Int) := by rw [hX, hY]; exact clr_word s E F h1 h4 h5
  have a3 : bits .or .u64 (Y : Int) 4602678819172646912 = (Z : Int) := by rw [hY, hZ]; exact put s F 1022 h1 h5 (by omega)
  have a4 : RowKit.wrap64 (E : Int) = (E : Int) := by unfold RowKit.wrap64; omega
  have HH := Lib.hid (And.intro h1 (And.intro h2 (And.intro h3 (And.intro h4 (And.intro h5 (And.intro h6 h7))))))
  have HZ := Lib.hid hZ
  have c1 := call_bits X
  have c2 := call_frombits
  clear h1 h2 h3 h5 h7 hX hY hZ
  go_wp2_with fail
  go_ret2
  exact ⟨Z, s, E, F, z, rfl, HZ.out, HH.out.1, HH.out.2.1, HH.out.2.2.1, HH.out.2.2.2.1, HH.out.2.2.2.2.1, HH.out.2.2.2.2.2.1, HH.out.2.2.2.2.2.2, n, rfl⟩

theorem frexp_ok (x m : Nat) (sg : Bool) (p : Int) (hx : x < 18446744073709551616) (h : Ieee.double.read x = .number sg m p) (hm : m ≠ 0) (w : World) :
    Calls Tryd.prog 34 #[.float .f64 x] w (FrxP sg m p w) := by
  have H := Lib.hid (And.intro h hm)
  clear h hm
  go_enter Tryd.func34, Tryd.ntmps34
  go_wp2_with fail
  refine (frexp_inner x m sg p hx H.out.1 H.out.2 _).mono ?_
  rintro e w' ⟨X, s, E, F, z, rfl, h1, h2, h3, h4, h5, h6, h7, h8, n, rfl⟩
  have HH := Lib.hid (And.intro h1 (And.intro h2 (And.intro h3 (And.intro h4 (And.intro h5 (And.intro h6 (And.intro h7 h8)))))))
  clear h1 h2 h3 h4 h5 h6 h7 h8
  go_wp2_with fail
  go_ret2
  exact ⟨X, s, E, F, z, rfl, HH.out.1, HH.out.2.1, HH.out.2.2.1, HH.out.2.2.2.1, HH.out.2.2.2.2.1, HH.out.2.2.2.2.2.1, HH.out.2.2.2.2.2.2.1, HH.out.2.2.2.2.2.2.2, n, rfl⟩

/-! ### Ldexp where the answer is a normal number -/
theorem one_mul_word (s E F : Nat) (hs : s < 2) (h1 : 1 ≤ E) (h2 : E < 2047) (hF : F < 4503599627370496) : floatBits .mul .f64 4607182418800017408 (s * 9223372036854775808 + (E * 4503599627370496 + F)) = some (s * 9223372036854775808 + (E * 4503599627370496 + F)) := by
  have r := read_nor s E F hs h1 h2 hF
  have r1 : Ieee.double.read 4607182418800017408 = .number false 4503599627370496 (-52) := by decide
  obtain ⟨X, hX⟩ : ∃ X : Nat, X = s * 9223372036854775808 + (E * 4503599627370496 + F) := ⟨_, rfl⟩
  rw [← hX] at r ⊢
  have e : floatBits .mul .f64 4607182418800017408 X = some (Ieee.double.write (.number (s == 1) (4503599627370496 * (4503599627370496 + F)) (-52 + ((E : Int) - 1075)))) := by
    show Ieee.double.mul _ X = _
    unfold Ieee.Format.mul
    rw [r, r1]
    cases (s == 1) <;> rfl
  rw [e]
  congr 1
  obtain ⟨M, hM⟩ : ∃ M : Nat, M = 4503599627370496 + F := ⟨_, rfl⟩
  rw [← hM]
  have hlog : (4503599627370496 * M).log2 = 104 := by
    have n0 : 4503599627370496 * M ≠ 0 := by omega
    rw [Nat.log2_eq_iff n0]
    constructor
    · show 20282409603651670423947251286016 ≤ _; omega
    · show _ < 40564819207303340847894502572032; omega
  show Ieee.double.nearest (s == 1) (4503599627370496 * M) (-52 + ((E : Int) - 1075)) = X
  unfold Ieee.Format.nearest
  rw [if_neg (by omega)]
  simp only [hlog, show (Ieee.double.fractionBits : Int) = 52 from rfl, show Ieee.double.leastPlace = -1074 from by decide]
  have m1 : max (-52 + ((E : Int) - 1075) + ((104 : Nat) : Int) - 52) (-1074) = (E : Int) - 1075 := by omega
  rw [m1]
  have m2 : (-52 + ((E : Int) - 1075) - ((E : Int) - 1075)).toNat = 0 := by omega
  have m3 : ((E : Int) - 1075 - (-52 + ((E : Int) - 1075))).toNat = 52 := by omega
  have m4 : ((E : Int) - 1075 - -1074).toNat = E - 1 := by omega
  rw [m2, m3, m4, Nat.shiftLeft_zero]
  have m5 : Ieee.Toward.even.cut (s == 1) (4503599627370496 * M) 52 = M := by
    unfold Ieee.Toward.cut
    simp only [hlog]
    have g1 : 1 <<< min 52 (104 + 2) = 4503599627370496 := by decide
    rw [g1, Nat.mul_div_cancel_left _ (by decide), Nat.mul_mod_right]
    simp
  rw [m5, show Ieee.double.binade = 4503599627370496 from by decide, show Ieee.double.infRung = 9218868437227405312 from by decide]
  have m6 : min ((E - 1) * 4503599627370496 + M) 9218868437227405312 = E * 4503599627370496 + F := by
    clear hlog m1 m2 m3 m4 m5 e r r1 hX
    have m7 : (E - 1) * 4503599627370496 + M = E * 4503599627370496 + F := by omega
    rw [m7]
    exact Nat.min_eq_left (by omega)
  rw [m6]
  unfold Ieee.Format.word
  rw [show Ieee.double.signWeight = 9223372036854775808 from by decide, hX]
  rcases Nat.lt_or_ge s 1 with g | g
  · rw [show s = 0 by omega]; simp
  · rw [show s = 1 by omega]; simp

end Go.Proofs.YtjmignhcfmdcaaaDoor
