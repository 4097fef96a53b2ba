/- The model's l1Parts, of a number above 0 and below 2^53: its odd part and its exponent.
   Conditions: those that each statement names. -/
import Derived.Test.YtjmignhcfmdcaaaDoorText
import Derived.Test.YtjmignhcfmdcaaaDoorQuo
import Derived.Test.YtjmignhcfmdcaaaDoorMono
import Derived.Laws.FloatArith
namespace Go.Proofs.YtjmignhcfmdcaaaDoor
set_option linter.unusedSimpArgs false
set_option linter.unusedVariables false
open Go Go.RowKit

namespace Flo
open Ieee
theorem p53 : pw 53 = 9007199254740992 := pw_nat 53
/-- cut towards zero -/
theorem trunc_ok (x m : Nat) (p : Int) (h : Ieee.double.read x = .number false m p) (hB : (m : Rat) * pw p < pw 53) :
    ∃ iv : Nat, floatToIntVal .f64 x .i64 = some (iv : Int) ∧ (iv : Rat) ≤ W x ∧ W x < (iv : Rat) + 1 := by
  have hv : W x = (m : Rat) * pw p := by rw [show W x = _ from V_eq h]; unfold val; simp
  have key : ∃ iv : Nat, (Ieee.Datum.number false m p).toInt .zero = some (iv : Int) ∧ (iv : Rat) ≤ (m : Rat) * pw p ∧ (m : Rat) * pw p < (iv : Rat) + 1 := by
    by_cases hp : 0 ≤ p
    · obtain ⟨q, rfl⟩ := Int.eq_ofNat_of_zero_le hp
      refine ⟨m * 2 ^ q, ?_, ?_, ?_⟩
      · unfold Datum.toInt Datum.integral Toward.cut
        simp [Ieee.signed, Nat.shiftLeft_eq]
      · rw [pw_nat]; push_cast; exact Rat.le_refl
      · rw [pw_nat]; push_cast; grind
    · obtain ⟨q, hq⟩ := Int.eq_ofNat_of_zero_le (show 0 ≤ -p by omega)
      have hpq : p = -(q : Int) := by omega
      subst hpq
      have hq0 : 0 < 2 ^ q := Nat.two_pow_pos q
      have hdiv : m / (1 <<< min q (m.log2 + 2)) = m / 2 ^ q := by
        rw [Nat.one_shiftLeft]
        by_cases hle : q ≤ m.log2 + 2
        · rw [Nat.min_eq_left hle]
        · rw [Nat.min_eq_right (by omega)]
          have l1 : m < 2 ^ (m.log2 + 2) := Nat.lt_of_lt_of_le Nat.lt_log2_self (Nat.pow_le_pow_right (by decide) (by omega))
          have l2 : m < 2 ^ q := Nat.lt_of_lt_of_le l1 (Nat.pow_le_pow_right (by decide) (by omega))
          rw [Nat.div_eq_of_lt l1, Nat.div_eq_of_lt l2]
      refine ⟨m / 2 ^ q, ?_, ?_, ?_⟩
      · unfold Datum.toInt Datum.integral Toward.cut
        have e1 : (-(q : Int)).toNat = 0 := by omega
        have e2 : (- -(q : Int)).toNat = q := by omega
        simp only [e1, e2, Nat.shiftLeft_zero, Bool.toNat_false, Nat.add_zero, hdiv, Ieee.signed]
        simp
      all_goals
        have e := Nat.div_add_mod m (2 ^ q)
        have l := Nat.mod_lt m hq0
        have hpp := pw_pos (-(q : Int))
        have hm := pw_neg_mul (q : Int)
        rw [pw_nat] at hm
        have ec : (m : Rat) = ((2 ^ q : Nat) : Rat) * ((m / 2 ^ q : Nat) : Rat) + ((m % 2 ^ q : Nat) : Rat) := by
          have : ((2 ^ q * (m / 2 ^ q) + m % 2 ^ q : Nat) : Rat) = (m : Rat) := by rw [e]
          rw [← this]; push_cast; rfl
        have r0 : (0 : Rat) ≤ ((m % 2 ^ q : Nat) : Rat) := by exact_mod_cast Nat.zero_le _
        have r1 : ((m % 2 ^ q : Nat) : Rat) < ((2 ^ q : Nat) : Rat) := by exact_mod_cast l
        generalize ((2 ^ q : Nat) : Rat) = T at *
        generalize ((m / 2 ^ q : Nat) : Rat) = D at *
        generalize ((m % 2 ^ q : Nat) : Rat) = R at *
        generalize Flo.pw (-(q : Int)) = Q at *
        have e3 : T * D * Q = D := by
          rw [show T * D * Q = D * (Q * T) by grind, hm]; grind
        have e4 : (m : Rat) * Q = D + R * Q := by rw [ec, Rat.add_mul, e3]
      · have k := Rat.mul_nonneg r0 (Rat.le_of_lt hpp)
        rw [e4]; grind
      · have k := Rat.mul_lt_mul_of_pos_right r1 hpp
        rw [e4]; grind
  obtain ⟨iv, k1, k2, k3⟩ := key
  refine ⟨iv, ?_, by rw [hv]; exact k2, by rw [hv]; exact k3⟩
  unfold floatToIntVal
  rw [show FloatKind.f64.decode x = _ from h, k1]
  have hlt : (iv : Rat) < 9007199254740992 := by rw [p53] at hB; grind
  have hn : iv < 9007199254740992 := by exact_mod_cast hlt
  simp only
  have hmin : IntKind.i64.min = -9223372036854775808 := by decide
  have hmax : IntKind.i64.max = 9223372036854775807 := by decide
  rw [if_pos (by rw [hmin, hmax]; omega)]
theorem trunc_lt {x iv : Nat} (h1 : (iv : Rat) ≤ W x) (hB : W x < pw 53) : iv < 9007199254740992 := by
  rw [p53] at hB
  have hlt : (iv : Rat) < 9007199254740992 := by grind
  exact_mod_cast hlt
/-- twice a number is exact -/
theorem double_exact (x m : Nat) (p : Int) (h : Ieee.double.read x = .number false m p) (hB : (m : Rat) * pw p < pw 53) :
    ∃ y m' p', floatBits .mul .f64 x 4611686018427387904 = some y ∧ Ieee.double.read y = .number false m' p' ∧ (m' : Rat) * pw p' = 2 * ((m : Rat) * pw p) := by
  obtain ⟨b1, b2, b3⟩ := read_bound Ieee.double (by decide) x false m p h
  have e : floatBits .mul .f64 x 4611686018427387904 = some (Ieee.double.write (.number false (m * 4503599627370496) (p + -51))) := by
    show Ieee.double.mul x _ = _
    unfold Format.mul
    rw [h, read_two]; rfl
  have hv : ((m * 4503599627370496 : Nat) : Rat) * pw (p + -51) = (m : Rat) * pw (p + 1) := by
    rw [show p + 1 = p + -51 + (52 : Nat) from by omega, pw_add (p + -51), pw_nat]
    have : ((2 ^ 52 : Nat) : Rat) = ((4503599627370496 : Nat) : Rat) := rfl
    rw [this]; push_cast; grind
  have h2 : (m : Rat) * pw (p + 1) = 2 * ((m : Rat) * pw p) := by rw [pw_succ]; grind
  obtain ⟨m', p', w1, w2, w3, w4⟩ := write_exact Ieee.double (by decide) false _ _ m (p + 1) hv b1 (by omega) (by
    rw [hv, h2, top_double]
    have l : pw 54 < pw 1023 := pw_lt (by omega)
    have l2 : pw 54 = 2 * pw 53 := by rw [← pw_succ]; rfl
    grind)
  exact ⟨_, m', p', e, w1, by rw [w4, hv, h2]⟩
theorem int_eq {a b : Nat} (h1 : (a : Rat) ≤ (b : Rat)) (h2 : (b : Rat) < (a : Rat) + 1) : a = b := by
  have k1 : a ≤ b := by exact_mod_cast h1
  have k2 : b < a + 1 := by exact_mod_cast h2
  omega
end Flo

theorem order_int {x iv : Nat} (hx : Flo.Nm x) (hi : iv < 9007199254740992) : (FloatKind.f64.format.order x (floatOfInt .f64 (iv : Int)) == some .eq) = decide (Flo.W x = (iv : Rat)) := by
  obtain ⟨n1, n2⟩ := Flo.int_double (iv : Int) (by omega)
  have o := Flo.order_num Ieee.double x _ hx n1
  rw [show Flo.V Ieee.double (floatOfInt .f64 (iv : Int)) = ((iv : Int) : Rat) from n2] at o
  have ec : ((iv : Int) : Rat) = (iv : Rat) := rfl
  rw [ec] at o
  by_cases h : Flo.W x = (iv : Rat)
  · rw [decide_eq_true h]
    simpa using (show FloatKind.f64.format.order x (floatOfInt .f64 (iv : Int)) = some .eq from o.2.1.2 h)
  · rw [decide_eq_false h]
    cases hg : (FloatKind.f64.format.order x (floatOfInt .f64 (iv : Int)) == some .eq) with
    | false => rfl
    | true => exact absurd (o.2.1.1 (show FloatKind.f64.format.order x (floatOfInt .f64 (iv : Int)) = some .eq by simpa using hg)) h

def PartP (V : Rat) (w : World) (e : Ending) (w' : World) : Prop :=
  ∃ (a : Nat) (q : Int), e = .returned (.tuple #[.int .i64 (a : Int), .int .i64 q]) ∧ a % 2 = 1 ∧ a < 9007199254740992 ∧ (a : Rat) * Flo.pw q = V ∧ -2000 ≤ q ∧ q ≤ 2000 ∧ w = w'
def P2I (m : Nat) (p : Int) (w : World) (x e : Value) (wr : World) : Prop :=
  ∃ (j y m' : Nat) (p' : Int), e = .int .i64 (-(j : Int)) ∧ x = .float .f64 y ∧ Ieee.double.read y = .number false m' p' ∧ (m' : Rat) * Flo.pw p' = (m : Rat) * Flo.pw (p + j) ∧ (p + j ≤ 0 ∨ j = 0) ∧ (m' : Rat) * Flo.pw p' < Flo.pw 53 ∧ w = wr
def P3I (V : Rat) (e0 : Int) (w : World) (e a : Value) (wr : World) : Prop :=
  ∃ (t b : Nat), e = .int .i64 (e0 + (t : Int)) ∧ a = .int .i64 (b : Int) ∧ 1 ≤ b ∧ b * 2 ^ t < 9007199254740992 ∧ (b : Rat) * Flo.pw (e0 + t) = V ∧ w = wr

theorem pow_t {b t : Nat} (h1 : 1 ≤ b) (h : b * 2 ^ t < 9007199254740992) : t < 53 := by
  rcases Nat.lt_or_ge t 53 with g | g
  · exact g
  · have h2 : 2 ^ 53 ≤ 2 ^ t := Nat.pow_le_pow_right (by decide) g
    have h3 := Nat.mul_le_mul h1 h2
    omega

set_option maxRecDepth 100000 in
theorem l1Parts_ok (x m : Nat) (p : Int) (h : Ieee.double.read x = .number false m p) (hm : m ≠ 0) (hB : (m : Rat) * Flo.pw p < Flo.pw 53) (w : World) :
    Calls Tryd.prog 17 #[.float .f64 x] w (PartP ((m : Rat) * Flo.pw p) w) := by
  obtain ⟨b1, b2, b3⟩ := Flo.read_bound Ieee.double (by decide) x false m p h
  have b2' : -1074 ≤ p := by rw [Flo.lp_double] at b2; exact b2
  have hge : (FloatKind.f64.format.order x 4845873199050653696 == some .gt || FloatKind.f64.format.order x 4845873199050653696 == some .eq) = false := by
    have h53 : Ieee.double.read 4845873199050653696 = .number false 4503599627370496 1 := by decide
    have o := Flo.order_num Ieee.double x 4845873199050653696 ⟨_, _, _, h⟩ ⟨_, _, _, h53⟩
    have e1 : Flo.V Ieee.double x = (m : Rat) * Flo.pw p := by rw [Flo.V_eq h]; unfold Flo.val; simp
    have e2 : Flo.V Ieee.double 4845873199050653696 = Flo.pw 53 := by
      rw [Flo.V_eq h53]; unfold Flo.val
      have : Flo.pw 1 = 2 := Flo.pw_one
      rw [this, Flo.p53]
      have : ((4503599627370496 : Nat) : Rat) = 4503599627370496 := rfl
      rw [this]; simp; grind
    rw [e1, e2] at o
    have hlt : FloatKind.f64.format.order x 4845873199050653696 = some .lt := o.1.2 hB
    rw [hlt]; rfl
  have H := Lib.hid (And.intro h (And.intro hm (And.intro hB b2')))
  have Hm53 := Lib.hid (show m < 9007199254740992 from b1)
  clear h hm hB b1 b2 b3
  go_enter Tryd.func17, Tryd.ntmps17
  go_wp2_with fail
  go_loopw [0, 4] (fun y e wr => y = .float .f64 x ∧ e = .int .i64 0 ∧ w = wr) (fun _ _ _ => 0)
  case atStart => exact ⟨rfl, rfl, rfl⟩
  case round =>
    obtain ⟨rfl, rfl, rfl⟩ := hrel
    go_wp2_with fail
    clear hge
    go_loopw [0, 4] (fun y e wr => P2I m p w y e wr) (fun _ e _ => (-(p + -(intOf e)) + 1).toNat)
    case atStart => exact ⟨0, x, m, p, rfl, rfl, H.out.1, by simp, .inr rfl, H.out.2.2.1, rfl⟩
    case round =>
      obtain ⟨j, y, m', p', rfl, rfl, hy, hv, hj, hB, rfl⟩ := hrel
      have Hy := Lib.hid (And.intro hy (And.intro hv hB))
      obtain ⟨iv, t1, t2, t3⟩ := Flo.trunc_ok y m' p' hy hB
      have ey : Flo.W y = (m' : Rat) * Flo.pw p' := by rw [show Flo.W y = _ from Flo.V_eq hy]; unfold Flo.val; simp
      have hi := Flo.trunc_lt t2 (by rw [ey]; exact hB)
      have ho := order_int (x := y) (iv := iv) ⟨_, _, _, hy⟩ hi
      have cv := fun w => run_convert_float_int (P := Tryd.prog) w 25 3 .f64 .i64 y (iv : Int) (by kernel_rfl) Tryd.underlying3 t1
      have T := Lib.hid (And.intro t2 (And.intro t3 ey))
      clear hy hv hB t1 t2 t3 ey
      by_cases heq : Flo.W y = (iv : Rat)
      · rw [decide_eq_true heq] at ho
        have ho2 : (FloatKind.f64.format.order y (floatOfInt .f64 (iv : Int)) != some .eq) = false := by unfold bne; rw [ho]; rfl
        have Heq := Lib.hid heq
        clear heq
        go_wp2_with fail
        clear ho ho2
        have hiv1 : 1 ≤ iv := by
          have e1 := Heq.out
          rw [T.out.2.2, Hy.out.2.1] at e1
          rcases Nat.eq_zero_or_pos iv with h0 | h0
          · exfalso
            rw [h0] at e1
            have : (m : Rat) * Flo.pw (p + j) = 0 := by rw [e1]; rfl
            exact H.out.2.1 (Flo.mag_zero (by rw [this]; exact Rat.le_refl))
          · exact h0
        have hV : (iv : Rat) * Flo.pw (-(j : Int)) = (m : Rat) * Flo.pw p := by
          rw [← Heq.out, T.out.2.2, Hy.out.2.1, Rat.mul_assoc, ← Flo.pw_add]
          congr 2; omega
        have hj2 : (j : Int) ≤ 1074 := by have := H.out.2.2.2; omega
        go_loopw [4, 5] (fun e a wr => P3I ((m : Rat) * Flo.pw p) (-(j : Int)) w e a wr) (fun _ a _ => (intOf a).toNat)
        case atStart => exact ⟨0, iv, by simp, rfl, hiv1, by simpa using hi, by simpa using hV, rfl⟩
        case round =>
          obtain ⟨t, b, rfl, rfl, hb1, hbt, hbv, rfl⟩ := hrel
          have ht := pow_t hb1 hbt
          have Hb := Lib.hid (And.intro hbt hbv)
          have hb53 : b < 9007199254740992 := Nat.lt_of_le_of_lt (Nat.le_mul_of_pos_right b (Nat.two_pow_pos t)) hbt
          clear hbt hbv
          by_cases h2 : b % 2 = 0
          · have hm2 : (b : Int) % 2 = 0 := by omega
            go_wp2_with fail
            go_roundw
            case rel =>
              refine ⟨t + 1, b / 2, by rw [show -(j : Int) + ((t + 1 : Nat) : Int) = -(j : Int) + (t : Int) + 1 from by omega], by rw [show ((b / 2 : Nat) : Int) = (b : Int) / 2 from by omega], by omega, ?_, ?_, rfl⟩
              · have := Hb.out.1
                rw [Nat.pow_succ, Nat.mul_comm (2 ^ t) 2, ← Nat.mul_assoc, show b / 2 * 2 = b by omega]; exact this
              · rw [← Hb.out.2, show -(j : Int) + ((t + 1 : Nat) : Int) = -(j : Int) + (t : Int) + 1 from by omega, Flo.pw_succ]
                have e : (b : Rat) = 2 * ((b / 2 : Nat) : Rat) := by
                  have : ((2 * (b / 2) : Nat) : Rat) = (b : Rat) := by rw [show 2 * (b / 2) = b by omega]
                  rw [← this]; push_cast; rfl
                rw [e]; grind
            case measure => simp only [intOf]; omega
          · have hm2 : (b : Int) % 2 = 1 := by omega
            go_wp2_with fail
            go_ret2
            exact ⟨b, _, rfl, by omega, hb53, Hb.out.2, by omega, by omega, rfl⟩
      · rw [decide_eq_false heq] at ho
        have ho2 : (FloatKind.f64.format.order y (floatOfInt .f64 (iv : Int)) != some .eq) = true := by unfold bne; rw [ho]; rfl
        have hneg : p + (j : Int) < 0 := by
          rcases Int.lt_or_le (p + (j : Int)) 0 with g | g
          · exact g
          · exfalso
            obtain ⟨q, hq⟩ := Int.eq_ofNat_of_zero_le g
            apply heq
            have e1 := T.out.2.2
            rw [Hy.out.2.1, hq, Flo.pw_nat] at e1
            have e2 : Flo.W y = ((m * 2 ^ q : Nat) : Rat) := by rw [e1]; push_cast; rfl
            have k := Flo.int_eq (a := iv) (b := m * 2 ^ q) (by rw [← e2]; exact T.out.1) (by rw [← e2]; exact T.out.2.1)
            rw [e2, k]
        obtain ⟨z, m2, p2, d1, d2, d3⟩ := Flo.double_exact y m' p' Hy.out.1 Hy.out.2.2
        have r1 : ∀ w, fres w .mul .f64 y 4611686018427387904 = z := fun w => by unfold fres; rw [d1]
        have r2 : fdr .mul .f64 y 4611686018427387904 = 0 := by unfold fdr; rw [d1]; rfl
        have hv2 : (m2 : Rat) * Flo.pw p2 = (m : Rat) * Flo.pw (p + ((j + 1 : Nat) : Int)) := by
          rw [d3, Hy.out.2.1, show p + ((j + 1 : Nat) : Int) = p + (j : Int) + 1 from by omega, Flo.pw_succ]; grind
        have hB2 : (m2 : Rat) * Flo.pw p2 < Flo.pw 53 := by
          rw [hv2]
          have l1 : Flo.pw (p + ((j + 1 : Nat) : Int)) ≤ Flo.pw 0 := Flo.pw_le (by omega)
          have m53 : (m : Rat) < 9007199254740992 := by exact_mod_cast Hm53.out
          have m0 : (0 : Rat) ≤ (m : Rat) := by exact_mod_cast Nat.zero_le m
          have k := Rat.mul_le_mul_of_nonneg_left l1 m0
          rw [Flo.pw_zero] at k
          rw [Flo.p53]; grind
        have D := Lib.hid (And.intro d2 (And.intro hv2 hB2))
        have hj1 : (j : Int) ≤ 1074 := by have := H.out.2.2.2; omega
        clear d1 d2 d3 hv2 hB2 heq
        go_wp2_with fail
        go_roundw
        case rel => exact ⟨j + 1, z, m2, p2, by rw [show -((j + 1 : Nat) : Int) = -(j : Int) - 1 from by omega], rfl, D.out.1, D.out.2.1, .inl (by omega), D.out.2.2, rfl⟩
        case measure => simp only [intOf]; omega

end Go.Proofs.YtjmignhcfmdcaaaDoor
