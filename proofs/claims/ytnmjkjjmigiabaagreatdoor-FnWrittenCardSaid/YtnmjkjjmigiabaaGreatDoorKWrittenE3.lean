/- Texts of a proof, put together: Parts, Dy, Bits, Tw, Inj.
   Conditions: those that each statement names. -/
import Derived.Test.YtnmjkjjmigiabaaGreatDoorKWrittenE2
import Derived.Laws.FloatArith
/- The model's l1Parts, of a number above 0 and below 2^53: its odd part and its exponent.
   Conditions: those that each statement names. -/
namespace Go.Proofs.YtnmjkjjmigiabaaGreatDoor
set_option linter.unusedSimpArgs false
set_option linter.unusedVariables false
open Go Go.RowKit

namespace Flo
open Ieee
theorem p53 : pw 53 = 9007199254740992 := pw_nat 53
/-- cut towards zero -/
theorem trunc_ok (x m : Nat) (p : Int) (h : Ieee.double.read x = .number false m p) (hB : (m : Rat) * pw p < pw 53) :
    ∃ iv : Nat, floatToIntVal .f64 x .i64 = some (iv : Int) ∧ (iv : Rat) ≤ W x ∧ W x < (iv : Rat) + 1 := by
  have hv : W x = (m : Rat) * pw p := by rw [show W x = _ from V_eq h]; unfold val; simp
  have key : ∃ iv : Nat, (Ieee.Datum.number false m p).toInt .zero = some (iv : Int) ∧ (iv : Rat) ≤ (m : Rat) * pw p ∧ (m : Rat) * pw p < (iv : Rat) + 1 := by
    by_cases hp : 0 ≤ p
    · obtain ⟨q, rfl⟩ := Int.eq_ofNat_of_zero_le hp
      refine ⟨m * 2 ^ q, ?_, ?_, ?_⟩
      · unfold Datum.toInt Datum.integral Toward.cut
        simp [Ieee.signed, Nat.shiftLeft_eq]
      · rw [pw_nat]; push_cast; exact Rat.le_refl
      · rw [pw_nat]; push_cast; grind
    · obtain ⟨q, hq⟩ := Int.eq_ofNat_of_zero_le (show 0 ≤ -p by omega)
      have hpq : p = -(q : Int) := by omega
      subst hpq
      have hq0 : 0 < 2 ^ q := Nat.two_pow_pos q
      have hdiv : m / (1 <<< min q (m.log2 + 2)) = m / 2 ^ q := by
        rw [Nat.one_shiftLeft]
        by_cases hle : q ≤ m.log2 + 2
        · rw [Nat.min_eq_left hle]
        · rw [Nat.min_eq_right (by omega)]
          have l1 : m < 2 ^ (m.log2 + 2) := Nat.lt_of_lt_of_le Nat.lt_log2_self (Nat.pow_le_pow_right (by decide) (by omega))
          have l2 : m < 2 ^ q := Nat.lt_of_lt_of_le l1 (Nat.pow_le_pow_right (by decide) (by omega))
          rw [Nat.div_eq_of_lt l1, Nat.div_eq_of_lt l2]
      refine ⟨m / 2 ^ q, ?_, ?_, ?_⟩
      · unfold Datum.toInt Datum.integral Toward.cut
        have e1 : (-(q : Int)).toNat = 0 := by omega
        have e2 : (- -(q : Int)).toNat = q := by omega
        simp only [e1, e2, Nat.shiftLeft_zero, Bool.toNat_false, Nat.add_zero, hdiv, Ieee.signed]
        simp
      all_goals
        have e := Nat.div_add_mod m (2 ^ q)
        have l := Nat.mod_lt m hq0
        have hpp := pw_pos (-(q : Int))
        have hm := pw_neg_mul (q : Int)
        rw [pw_nat] at hm
        have ec : (m : Rat) = ((2 ^ q : Nat) : Rat) * ((m / 2 ^ q : Nat) : Rat) + ((m % 2 ^ q : Nat) : Rat) := by
          have : ((2 ^ q * (m / 2 ^ q) + m % 2 ^ q : Nat) : Rat) = (m : Rat) := by rw [e]
          rw [← this]; push_cast; rfl
        have r0 : (0 : Rat) ≤ ((m % 2 ^ q : Nat) : Rat) := by exact_mod_cast Nat.zero_le _
        have r1 : ((m % 2 ^ q : Nat) : Rat) < ((2 ^ q : Nat) : Rat) := by exact_mod_cast l
        generalize ((2 ^ q : Nat) : Rat) = T at *
        generalize ((m / 2 ^ q : Nat) : Rat) = D at *
        generalize ((m % 2 ^ q : Nat) : Rat) = R at *
        generalize Flo.pw (-(q : Int)) = Q at *
        have e3 : T * D * Q = D := by
          rw [show T * D * Q = D * (Q * T) by grind, hm]; grind
        have e4 : (m : Rat) * Q = D + R * Q := by rw [ec, Rat.add_mul, e3]
      · have k := Rat.mul_nonneg r0 (Rat.le_of_lt hpp)
        rw [e4]; grind
      · have k := Rat.mul_lt_mul_of_pos_right r1 hpp
        rw [e4]; grind
  obtain ⟨iv, k1, k2, k3⟩ := key
  refine ⟨iv, ?_, by rw [hv]; exact k2, by rw [hv]; exact k3⟩
  unfold floatToIntVal
  rw [show FloatKind.f64.decode x = _ from h, k1]
  have hlt : (iv : Rat) < 9007199254740992 := by rw [p53] at hB; grind
  have hn : iv < 9007199254740992 := by exact_mod_cast hlt
  simp only
  have hmin : IntKind.i64.min = -9223372036854775808 := by decide
  have hmax : IntKind.i64.max = 9223372036854775807 := by decide
  rw [if_pos (by rw [hmin, hmax]; omega)]
theorem trunc_lt {x iv : Nat} (h1 : (iv : Rat) ≤ W x) (hB : W x < pw 53) : iv < 9007199254740992 := by
  rw [p53] at hB
  have hlt : (iv : Rat) < 9007199254740992 := by grind
  exact_mod_cast hlt
/-- twice a number is exact -/
theorem double_exact (x m : Nat) (p : Int) (h : Ieee.double.read x = .number false m p) (hB : (m : Rat) * pw p < pw 53) :
    ∃ y m' p', floatBits .mul .f64 x 4611686018427387904 = some y ∧ Ieee.double.read y = .number false m' p' ∧ (m' : Rat) * pw p' = 2 * ((m : Rat) * pw p) := by
  obtain ⟨b1, b2, b3⟩ := read_bound Ieee.double (by decide) x false m p h
  have e : floatBits .mul .f64 x 4611686018427387904 = some (Ieee.double.write (.number false (m * 4503599627370496) (p + -51))) := by
    show Ieee.double.mul x _ = _
    unfold Format.mul
    rw [h, read_two]; rfl
  have hv : ((m * 4503599627370496 : Nat) : Rat) * pw (p + -51) = (m : Rat) * pw (p + 1) := by
    rw [show p + 1 = p + -51 + (52 : Nat) from by omega, pw_add (p + -51), pw_nat]
    have : ((2 ^ 52 : Nat) : Rat) = ((4503599627370496 : Nat) : Rat) := rfl
    rw [this]; push_cast; grind
  have h2 : (m : Rat) * pw (p + 1) = 2 * ((m : Rat) * pw p) := by rw [pw_succ]; grind
  obtain ⟨m', p', w1, w2, w3, w4⟩ := write_exact Ieee.double (by decide) false _ _ m (p + 1) hv b1 (by omega) (by
    rw [hv, h2, top_double]
    have l : pw 54 < pw 1023 := pw_lt (by omega)
    have l2 : pw 54 = 2 * pw 53 := by rw [← pw_succ]; rfl
    grind)
  exact ⟨_, m', p', e, w1, by rw [w4, hv, h2]⟩
theorem int_eq {a b : Nat} (h1 : (a : Rat) ≤ (b : Rat)) (h2 : (b : Rat) < (a : Rat) + 1) : a = b := by
  have k1 : a ≤ b := by exact_mod_cast h1
  have k2 : b < a + 1 := by exact_mod_cast h2
  omega
end Flo

theorem order_int {x iv : Nat} (hx : Flo.Nm x) (hi : iv < 9007199254740992) : (FloatKind.f64.format.order x (floatOfInt .f64 (iv : Int)) == some .eq) = decide (Flo.W x = (iv : Rat)) := by
  obtain ⟨n1, n2⟩ := Flo.int_double (iv : Int) (by omega)
  have o := Flo.order_num Ieee.double x _ hx n1
  rw [show Flo.V Ieee.double (floatOfInt .f64 (iv : Int)) = ((iv : Int) : Rat) from n2] at o
  have ec : ((iv : Int) : Rat) = (iv : Rat) := rfl
  rw [ec] at o
  by_cases h : Flo.W x = (iv : Rat)
  · rw [decide_eq_true h]
    simpa using (show FloatKind.f64.format.order x (floatOfInt .f64 (iv : Int)) = some .eq from o.2.1.2 h)
  · rw [decide_eq_false h]
    cases hg : (FloatKind.f64.format.order x (floatOfInt .f64 (iv : Int)) == some .eq) with
    | false => rfl
    | true => exact absurd (o.2.1.1 (show FloatKind.f64.format.order x (floatOfInt .f64 (iv : Int)) = some .eq by simpa using hg)) h

def PartP (V : Rat) (w : World) (e : Ending) (w' : World) : Prop :=
  ∃ (a : Nat) (q : Int), e = .returned (.tuple #[.int .i64 (a : Int), .int .i64 q]) ∧ a % 2 = 1 ∧ a < 9007199254740992 ∧ (a : Rat) * Flo.pw q = V ∧ -2000 ≤ q ∧ q ≤ 2000 ∧ w = w'
def P2I (m : Nat) (p : Int) (w : World) (x e : Value) (wr : World) : Prop :=
  ∃ (j y m' : Nat) (p' : Int), e = .int .i64 (-(j : Int)) ∧ x = .float .f64 y ∧ Ieee.double.read y = .number false m' p' ∧ (m' : Rat) * Flo.pw p' = (m : Rat) * Flo.pw (p + j) ∧ (p + j ≤ 0 ∨ j = 0) ∧ (m' : Rat) * Flo.pw p' < Flo.pw 53 ∧ w = wr
def P3I (V : Rat) (e0 : Int) (w : World) (e a : Value) (wr : World) : Prop :=
  ∃ (t b : Nat), e = .int .i64 (e0 + (t : Int)) ∧ a = .int .i64 (b : Int) ∧ 1 ≤ b ∧ b * 2 ^ t < 9007199254740992 ∧ (b : Rat) * Flo.pw (e0 + t) = V ∧ w = wr

theorem pow_t {b t : Nat} (h1 : 1 ≤ b) (h : b * 2 ^ t < 9007199254740992) : t < 53 := by
  rcases Nat.lt_or_ge t 53 with g | g
  · exact g
  · have h2 : 2 ^ 53 ≤ 2 ^ t := Nat.pow_le_pow_right (by decide) g
    have h3 := Nat.mul_le_mul h1 h2
    omega

set_option maxRecDepth 100000 in
theorem l1Parts_ok (x m : Nat) (p : Int) (h : Ieee.double.read x = .number false m p) (hm : m ≠ 0) (hB : (m : Rat) * Flo.pw p < Flo.pw 53) (w : World) :
    Calls Tryz.prog 190 #[.float .f64 x] w (PartP ((m : Rat) * Flo.pw p) w) := by
  obtain ⟨b1, b2, b3⟩ := Flo.read_bound Ieee.double (by decide) x false m p h
  have b2' : -1074 ≤ p := by rw [Flo.lp_double] at b2; exact b2
  have hge : (FloatKind.f64.format.order x 4845873199050653696 == some .gt || FloatKind.f64.format.order x 4845873199050653696 == some .eq) = false := by
    have h53 : Ieee.double.read 4845873199050653696 = .number false 4503599627370496 1 := by decide
    have o := Flo.order_num Ieee.double x 4845873199050653696 ⟨_, _, _, h⟩ ⟨_, _, _, h53⟩
    have e1 : Flo.V Ieee.double x = (m : Rat) * Flo.pw p := by rw [Flo.V_eq h]; unfold Flo.val; simp
    have e2 : Flo.V Ieee.double 4845873199050653696 = Flo.pw 53 := by
      rw [Flo.V_eq h53]; unfold Flo.val
      have : Flo.pw 1 = 2 := Flo.pw_one
      rw [this, Flo.p53]
      have : ((4503599627370496 : Nat) : Rat) = 4503599627370496 := rfl
      rw [this]; simp; grind
    rw [e1, e2] at o
    have hlt : FloatKind.f64.format.order x 4845873199050653696 = some .lt := o.1.2 hB
    rw [hlt]; rfl
  have H := Lib.hid (And.intro h (And.intro hm (And.intro hB b2')))
  have Hm53 := Lib.hid (show m < 9007199254740992 from b1)
  clear h hm hB b1 b2 b3
  go_enter Tryz.func190, Tryz.ntmps190
  go_wp2_with fail
  go_loopw [0, 4] (fun y e wr => y = .float .f64 x ∧ e = .int .i64 0 ∧ w = wr) (fun _ _ _ => 0)
  case atStart => exact ⟨rfl, rfl, rfl⟩
  case round =>
    obtain ⟨rfl, rfl, rfl⟩ := hrel
    go_wp2_with fail
    clear hge
    go_loopw [0, 4] (fun y e wr => P2I m p w y e wr) (fun _ e _ => (-(p + -(intOf e)) + 1).toNat)
    case atStart => exact ⟨0, x, m, p, rfl, rfl, H.out.1, by simp, .inr rfl, H.out.2.2.1, rfl⟩
    case round =>
      obtain ⟨j, y, m', p', rfl, rfl, hy, hv, hj, hB, rfl⟩ := hrel
      have Hy := Lib.hid (And.intro hy (And.intro hv hB))
      obtain ⟨iv, t1, t2, t3⟩ := Flo.trunc_ok y m' p' hy hB
      have ey : Flo.W y = (m' : Rat) * Flo.pw p' := by rw [show Flo.W y = _ from Flo.V_eq hy]; unfold Flo.val; simp
      have hi := Flo.trunc_lt t2 (by rw [ey]; exact hB)
      have ho := order_int (x := y) (iv := iv) ⟨_, _, _, hy⟩ hi
      have cv := fun w => run_convert_float_int (P := Tryz.prog) w 26 3 .f64 .i64 y (iv : Int) (by kernel_rfl) Tryz.underlying3 t1
      have T := Lib.hid (And.intro t2 (And.intro t3 ey))
      clear hy hv hB t1 t2 t3 ey
      by_cases heq : Flo.W y = (iv : Rat)
      · rw [decide_eq_true heq] at ho
        have ho2 : (FloatKind.f64.format.order y (floatOfInt .f64 (iv : Int)) != some .eq) = false := by unfold bne; rw [ho]; rfl
        have Heq := Lib.hid heq
        clear heq
        go_wp2_with fail
        clear ho ho2
        have hiv1 : 1 ≤ iv := by
          have e1 := Heq.out
          rw [T.out.2.2, Hy.out.2.1] at e1
          rcases Nat.eq_zero_or_pos iv with h0 | h0
          · exfalso
            rw [h0] at e1
            have : (m : Rat) * Flo.pw (p + j) = 0 := by rw [e1]; rfl
            exact H.out.2.1 (Flo.mag_zero (by rw [this]; exact Rat.le_refl))
          · exact h0
        have hV : (iv : Rat) * Flo.pw (-(j : Int)) = (m : Rat) * Flo.pw p := by
          rw [← Heq.out, T.out.2.2, Hy.out.2.1, Rat.mul_assoc, ← Flo.pw_add]
          congr 2; omega
        have hj2 : (j : Int) ≤ 1074 := by have := H.out.2.2.2; omega
        go_loopw [4, 5] (fun e a wr => P3I ((m : Rat) * Flo.pw p) (-(j : Int)) w e a wr) (fun _ a _ => (intOf a).toNat)
        case atStart => exact ⟨0, iv, by simp, rfl, hiv1, by simpa using hi, by simpa using hV, rfl⟩
        case round =>
          obtain ⟨t, b, rfl, rfl, hb1, hbt, hbv, rfl⟩ := hrel
          have ht := pow_t hb1 hbt
          have Hb := Lib.hid (And.intro hbt hbv)
          have hb53 : b < 9007199254740992 := Nat.lt_of_le_of_lt (Nat.le_mul_of_pos_right b (Nat.two_pow_pos t)) hbt
          clear hbt hbv
          by_cases h2 : b % 2 = 0
          · have hm2 : (b : Int) % 2 = 0 := by omega
            go_wp2_with fail
            go_roundw
            case rel =>
              refine ⟨t + 1, b / 2, by rw [show -(j : Int) + ((t + 1 : Nat) : Int) = -(j : Int) + (t : Int) + 1 from by omega], by rw [show ((b / 2 : Nat) : Int) = (b : Int) / 2 from by omega], by omega, ?_, ?_, rfl⟩
              · have := Hb.out.1
                rw [Nat.pow_succ, Nat.mul_comm (2 ^ t) 2, ← Nat.mul_assoc, show b / 2 * 2 = b by omega]; exact this
              · rw [← Hb.out.2, show -(j : Int) + ((t + 1 : Nat) : Int) = -(j : Int) + (t : Int) + 1 from by omega, Flo.pw_succ]
                have e : (b : Rat) = 2 * ((b / 2 : Nat) : Rat) := by
                  have : ((2 * (b / 2) : Nat) : Rat) = (b : Rat) := by rw [show 2 * (b / 2) = b by omega]
                  rw [← this]; push_cast; rfl
                rw [e]; grind
            case measure => simp only [intOf]; omega
          · have hm2 : (b : Int) % 2 = 1 := by omega
            go_wp2_with fail
            go_ret2
            exact ⟨b, _, rfl, by omega, hb53, Hb.out.2, by omega, by omega, rfl⟩
      · rw [decide_eq_false heq] at ho
        have ho2 : (FloatKind.f64.format.order y (floatOfInt .f64 (iv : Int)) != some .eq) = true := by unfold bne; rw [ho]; rfl
        have hneg : p + (j : Int) < 0 := by
          rcases Int.lt_or_le (p + (j : Int)) 0 with g | g
          · exact g
          · exfalso
            obtain ⟨q, hq⟩ := Int.eq_ofNat_of_zero_le g
            apply heq
            have e1 := T.out.2.2
            rw [Hy.out.2.1, hq, Flo.pw_nat] at e1
            have e2 : Flo.W y = ((m * 2 ^ q : Nat) : Rat) := by rw [e1]; push_cast; rfl
            have k := Flo.int_eq (a := iv) (b := m * 2 ^ q) (by rw [← e2]; exact T.out.1) (by rw [← e2]; exact T.out.2.1)
            rw [e2, k]
        obtain ⟨z, m2, p2, d1, d2, d3⟩ := Flo.double_exact y m' p' Hy.out.1 Hy.out.2.2
        have r1 : ∀ w, fres w .mul .f64 y 4611686018427387904 = z := fun w => by unfold fres; rw [d1]
        have r2 : fdr .mul .f64 y 4611686018427387904 = 0 := by unfold fdr; rw [d1]; rfl
        have hv2 : (m2 : Rat) * Flo.pw p2 = (m : Rat) * Flo.pw (p + ((j + 1 : Nat) : Int)) := by
          rw [d3, Hy.out.2.1, show p + ((j + 1 : Nat) : Int) = p + (j : Int) + 1 from by omega, Flo.pw_succ]; grind
        have hB2 : (m2 : Rat) * Flo.pw p2 < Flo.pw 53 := by
          rw [hv2]
          have l1 : Flo.pw (p + ((j + 1 : Nat) : Int)) ≤ Flo.pw 0 := Flo.pw_le (by omega)
          have m53 : (m : Rat) < 9007199254740992 := by exact_mod_cast Hm53.out
          have m0 : (0 : Rat) ≤ (m : Rat) := by exact_mod_cast Nat.zero_le m
          have k := Rat.mul_le_mul_of_nonneg_left l1 m0
          rw [Flo.pw_zero] at k
          rw [Flo.p53]; grind
        have D := Lib.hid (And.intro d2 (And.intro hv2 hB2))
        have hj1 : (j : Int) ≤ 1074 := by have := H.out.2.2.2; omega
        clear d1 d2 d3 hv2 hB2 heq
        go_wp2_with fail
        go_roundw
        case rel => exact ⟨j + 1, z, m2, p2, by rw [show -((j + 1 : Nat) : Int) = -(j : Int) - 1 from by omega], rfl, D.out.1, D.out.2.1, .inl (by omega), D.out.2.2, rfl⟩
        case measure => simp only [intOf]; omega

end Go.Proofs.YtnmjkjjmigiabaaGreatDoor

/- Plain facts on numbers of double precision that are integers times a power of two: their sums, differences and products, and quotients by a power of two, are exact. No program stands in it.
   Conditions: those that each statement names. -/
namespace Go.Proofs.YtnmjkjjmigiabaaGreatDoor.Flo
set_option linter.unusedSimpArgs false
set_option linter.unusedVariables false
open Go Ieee

/-- a number that is n times 2^e -/
def Dy (e n : Int) (b : Nat) : Prop := Nm b ∧ W b = (n : Rat) * pw e

theorem natAbs_rat (n : Int) : ((n.natAbs : Nat) : Rat) = if n < 0 then -(n : Rat) else (n : Rat) := by
  split
  · rename_i h
    have : ((n.natAbs : Nat) : Int) = -n := by omega
    rw [← Rat.intCast_natCast, this]; push_cast; rfl
  · rename_i h
    have : ((n.natAbs : Nat) : Int) = n := by omega
    rw [← Rat.intCast_natCast, this]

theorem write_dy (s : Bool) (m : Nat) (p : Int) (e n : Int) (h : val s m p = (n : Rat) * pw e) (hn : n.natAbs < 9007199254740992) (he : -1074 ≤ e) (he2 : e ≤ 970) :
    Dy e n (Ieee.double.write (.number s m p)) := by
  have a1 : (0 : Rat) ≤ (m : Rat) * pw p := by
    have a1 : (0 : Rat) ≤ m := by exact_mod_cast Nat.zero_le m
    exact Rat.mul_nonneg a1 (Rat.le_of_lt (pw_pos p))
  have hk : (m : Rat) * pw p = ((n.natAbs : Nat) : Rat) * pw e := by
    rw [natAbs_rat]
    have pe := pw_pos e
    unfold val at h
    by_cases hn0 : n < 0
    · have hn1 : (n : Rat) < 0 := by exact_mod_cast hn0
      have := Rat.mul_pos (show 0 < -(n : Rat) by grind) pe
      rw [if_pos hn0]
      cases s <;> simp at h <;> grind
    · have hn1 : 0 ≤ (n : Rat) := by exact_mod_cast (show (0 : Int) ≤ n by omega)
      have := Rat.mul_nonneg hn1 (Rat.le_of_lt pe)
      rw [if_neg hn0]
      cases s <;> simp at h <;> grind
  have hB : (m : Rat) * pw p < pw (top Ieee.double) := by
    rw [hk, top_double]
    by_cases h0 : n.natAbs = 0
    · rw [h0]; have := pw_pos 1023; simp; grind
    · have b1 := (size_pw n.natAbs e h0).2
      have b2 : n.natAbs.log2 < 53 := (Nat.log2_lt h0).2 hn
      have b3 := pw_le (show e + (n.natAbs.log2 : Int) + 1 ≤ 1023 by omega)
      grind
  obtain ⟨m', p', w1, -, -, w4⟩ := write_exact Ieee.double (by decide) s m p n.natAbs e hk hn (by rw [lp_double]; omega) hB
  refine ⟨⟨_, _, _, w1⟩, ?_⟩
  rw [show W (Ieee.double.write (.number s m p)) = _ from V_eq w1, ← h]
  unfold val
  rw [w4]

theorem dy_int (n : Int) (hn : n.natAbs < 9007199254740992) : Dy 0 n (floatOfInt .f64 n) := by
  obtain ⟨h1, h2⟩ := int_double n hn
  exact ⟨h1, by rw [h2, pw_zero]; grind⟩

theorem dy_add {e m n : Int} {x y : Nat} (hx : Dy e m x) (hy : Dy e n y) (h : (m + n).natAbs < 9007199254740992) (he : -1074 ≤ e) (he2 : e ≤ 970) :
    ∃ r, floatBits .add .f64 x y = some r ∧ Dy e (m + n) r := by
  obtain ⟨⟨s, a, i, hx⟩, vx⟩ := hx
  obtain ⟨⟨t, b, j, hy⟩, vy⟩ := hy
  obtain ⟨q, k, c, h3, h4⟩ := sum_val s t a b i j
  rw [show W x = _ from V_eq hx] at vx
  rw [show W y = _ from V_eq hy] at vy
  show ∃ r, Ieee.double.add x y = some r ∧ _
  unfold Format.add
  rw [hx, hy, h3]
  exact ⟨_, rfl, write_dy q k c e (m + n) (by rw [h4, vx, vy]; push_cast; grind) h he he2⟩

theorem dy_sub {e m n : Int} {x y : Nat} (hx : Dy e m x) (hy : Dy e n y) (h : (m - n).natAbs < 9007199254740992) (he : -1074 ≤ e) (he2 : e ≤ 970) :
    ∃ r, floatBits .sub .f64 x y = some r ∧ Dy e (m - n) r := by
  obtain ⟨⟨s, a, i, hx⟩, vx⟩ := hx
  obtain ⟨⟨t, b, j, hy⟩, vy⟩ := hy
  obtain ⟨q, k, c, h3, h4⟩ := sum_val s (!t) a b i j
  rw [val_opp] at h4
  rw [show W x = _ from V_eq hx] at vx
  rw [show W y = _ from V_eq hy] at vy
  show ∃ r, Ieee.double.sub x y = some r ∧ _
  unfold Format.sub
  rw [hx, hy, show (Datum.number t b j).opposite = .number (!t) b j from rfl, h3]
  exact ⟨_, rfl, write_dy q k c e (m - n) (by rw [h4, vx, vy]; push_cast; grind) h he he2⟩

theorem dy_mul {e f m n : Int} {x y : Nat} (hx : Dy e m x) (hy : Dy f n y) (h : (m * n).natAbs < 9007199254740992) (he : -1074 ≤ e + f) (he2 : e + f ≤ 970) :
    ∃ r, floatBits .mul .f64 x y = some r ∧ Dy (e + f) (m * n) r := by
  obtain ⟨⟨s, a, i, hx⟩, vx⟩ := hx
  obtain ⟨⟨t, b, j, hy⟩, vy⟩ := hy
  rw [show W x = _ from V_eq hx] at vx
  rw [show W y = _ from V_eq hy] at vy
  show ∃ r, Ieee.double.mul x y = some r ∧ _
  unfold Format.mul
  rw [hx, hy, show Datum.product (.number s a i) (.number t b j) = some (.number (s ^^ t) (a * b) (i + j)) from rfl]
  exact ⟨_, rfl, write_dy _ _ _ _ _ (by rw [val_mul, vx, vy, pw_add]; push_cast; grind) h he he2⟩

/-- a quotient by 2^d -/
theorem dy_div {e n d : Int} {x y : Nat} (hx : Dy e n x) (hy : Ieee.double.read y = .number false 4503599627370496 (d - 52)) (hn : n.natAbs < 9007199254740992) (he : -1074 ≤ e - d) (he2 : e - d ≤ 970) :
    ∃ r, floatBits .quo .f64 x y = some r ∧ Dy (e - d) n r := by
  obtain ⟨⟨s, m, p, hx⟩, vx⟩ := hx
  rw [show W x = _ from V_eq hx] at vx
  obtain ⟨b1, b2, b3⟩ := read_bound Ieee.double (by decide) x s m p hx
  have hm53 : m < 9007199254740992 := b1
  unfold floatBits Ieee.Format.div
  show ∃ r, Option.map Ieee.double.write (Datum.quotient _ (Ieee.double.read x) (Ieee.double.read y)) = some r ∧ _
  rw [hx, hy]
  have hval : val s m (p - d) = (n : Rat) * pw (e - d) := by
    have e1 : val s m (p - d) = val s m p * pw (-d) := by unfold val; rw [show p - d = p + -d from by omega, pw_add]; grind
    rw [e1, vx, show e - d = e + -d from by omega, pw_add]; grind
  by_cases hm : m = 0
  · subst hm
    simp only [Datum.quotient]
    rw [if_neg (by decide)]
    simp only [Nat.zero_shiftLeft, Nat.zero_div, Nat.zero_mod, bne_self_eq_false, Bool.toNat_false, Option.map_some, Bool.xor_false]
    exact ⟨_, rfl, write_dy _ _ _ _ _ (by rw [← hval, val_zero, val_zero]) hn he he2⟩
  · have hl : m.log2 ≤ 52 := by
      have : m.log2 < 53 := (Nat.log2_lt hm).2 (by simpa using hm53)
      omega
    have hl2 : Nat.log2 4503599627370496 = 52 := by decide
    simp only [Datum.quotient]
    rw [if_neg (by decide), hl2]
    rw [show (FloatKind.f64.format.fractionBits + 2 + 52 - m.log2 : Nat) = 52 + (54 - m.log2) from by
      have : FloatKind.f64.format.fractionBits = 52 := rfl
      omega]
    generalize hk : 54 - m.log2 = k
    have e1 : m <<< (52 + k) = m * 2 ^ k * 4503599627370496 := by
      rw [Nat.shiftLeft_eq, Nat.add_comm, Nat.pow_add, Nat.mul_assoc]
    rw [e1, Nat.mul_div_cancel _ (by decide), Nat.mul_mod_left]
    simp only [bne_self_eq_false, Bool.toNat_false, Nat.add_zero, Option.map_some, Bool.xor_false]
    have hv : ((2 * (m * 2 ^ k) : Nat) : Rat) * pw (p - (d - 52) - ((52 + k : Nat) : Int) - 1) = (m : Rat) * pw (p - d) := by
      have e : pw (p - d) = pw ((k + 1 : Nat) : Int) * pw (p - (d - 52) - ((52 + k : Nat) : Int) - 1) := by rw [← pw_add]; congr 1; omega
      rw [e, pw_nat, Nat.pow_succ]
      push_cast
      grind
    refine ⟨_, rfl, write_dy _ _ _ _ _ ?_ hn he he2⟩
    rw [← hval]
    unfold val
    rw [hv]

end Go.Proofs.YtnmjkjjmigiabaaGreatDoor.Flo

/- Plain: the bits of a number of double precision, taken apart and put together; odd parts.
   Conditions: those that each statement names. -/
namespace Go.Proofs.YtnmjkjjmigiabaaGreatDoor
set_option linter.unusedSimpArgs false
set_option linter.unusedVariables false
open Go Go.RowKit

theorem read_sub (s x : Nat) (hs : s < 2) (hx : x < 4503599627370496) : Ieee.double.read (s * 9223372036854775808 + x) = .number (s == 1) x (-1074) := by
  unfold Ieee.Format.read
  simp only [show Ieee.double.signWeight = 9223372036854775808 from by decide, show Ieee.double.binade = 4503599627370496 from by decide]
  have h1 : (s * 9223372036854775808 + x) % 9223372036854775808 = x := by omega
  have h2 : (s * 9223372036854775808 + x) / 9223372036854775808 % 2 = s := by omega
  rw [h1, h2]
  rw [if_pos hx]
  rfl
theorem read_nor (s E F : Nat) (hs : s < 2) (h1 : 1 ≤ E) (h2 : E < 2047) (hF : F < 4503599627370496) : Ieee.double.read (s * 9223372036854775808 + (E * 4503599627370496 + F)) = .number (s == 1) (4503599627370496 + F) ((E : Int) - 1075) := by
  have hE : (-1074 : Int) + ((E - 1 : Nat) : Int) = (E : Int) - 1075 := by omega
  unfold Ieee.Format.read
  simp only [show Ieee.double.signWeight = 9223372036854775808 from by decide, show Ieee.double.binade = 4503599627370496 from by decide]
  have h5 : (E * 4503599627370496 + F) / 4503599627370496 = E := by omega
  have h6 : (E * 4503599627370496 + F) % 4503599627370496 = F := by omega
  have h3 : (s * 9223372036854775808 + (E * 4503599627370496 + F)) % 9223372036854775808 = E * 4503599627370496 + F := by clear h5 h6; omega
  have h4 : (s * 9223372036854775808 + (E * 4503599627370496 + F)) / 9223372036854775808 % 2 = s := by clear h3 h5 h6; omega
  rw [h3, h4, h5, h6]
  rw [if_neg (by omega), if_pos (by rw [show Ieee.double.infRung = 9218868437227405312 from by decide]; omega)]
  rw [show Ieee.double.leastPlace = -1074 from by decide]
  rw [hE]

/-- the words of numbers -/
theorem word_cases (x m : Nat) (sg : Bool) (p : Int) (hx : x < 18446744073709551616) (h : Ieee.double.read x = .number sg m p) :
    ∃ s, s < 2 ∧ sg = (s == 1) ∧ ((x = s * 9223372036854775808 + m ∧ m < 4503599627370496 ∧ p = -1074) ∨ (∃ E F : Nat, x = s * 9223372036854775808 + (E * 4503599627370496 + F) ∧ 1 ≤ E ∧ E < 2047 ∧ F < 4503599627370496 ∧ m = 4503599627370496 + F ∧ p = (E : Int) - 1075)) := by
  have e0 : x = x / 9223372036854775808 * 9223372036854775808 + x % 9223372036854775808 := by omega
  have hs : x / 9223372036854775808 < 2 := by omega
  generalize x / 9223372036854775808 = s at e0 hs
  have hr : x % 9223372036854775808 < 9223372036854775808 := by omega
  generalize x % 9223372036854775808 = r at e0 hr
  subst e0
  refine ⟨s, hs, ?_⟩
  by_cases hsub : r < 4503599627370496
  · rw [read_sub s r hs hsub] at h
    injection h with h0 h1 h2
    subst h1
    exact ⟨h0.symm, .inl ⟨rfl, hsub, h2.symm⟩⟩
  · have hfin : r < 9218868437227405312 := by
      rcases Nat.lt_or_ge r 9218868437227405312 with g | g
      · exact g
      · exfalso
        have h1 : (s * 9223372036854775808 + r) % 9223372036854775808 = r := by omega
        unfold Ieee.Format.read at h
        simp only [show Ieee.double.signWeight = 9223372036854775808 from by decide, show Ieee.double.infRung = 9218868437227405312 from by decide, show Ieee.double.binade = 4503599627370496 from by decide, h1] at h
        rw [if_neg (by omega), if_neg (by omega)] at h
        split at h <;> simp at h
    have e : r = r / 4503599627370496 * 4503599627370496 + r % 4503599627370496 := by omega
    have k := read_nor s (r / 4503599627370496) (r % 4503599627370496) hs (by omega) (by omega) (by omega)
    rw [← e, h] at k
    injection k with k0 k1 k2
    exact ⟨k0, .inr ⟨_, _, by rw [← e], by omega, by omega, by omega, k1, k2⟩⟩

theorem clr (x : Nat) (hx : x < 18446744073709551616) : bits .andNot .u64 (x : Int) 9218868437227405312 = ((x / 9223372036854775808 * 9223372036854775808 + x % 4503599627370496 : Nat) : Int) := by
  have e := u64_andNot_nat x 9218868437227405312 hx (by decide)
  rw [show ((9218868437227405312 : Nat) : Int) = 9218868437227405312 from rfl] at e
  rw [e]
  have j : (18446744073709551615 - 9218868437227405312 : Nat) = 9223372036854775808 ||| 4503599627370495 := by decide
  rw [j, Nat.and_or_distrib_left, nat_hi64_63, nat_mask52, Nat.mod_eq_of_lt hx]
  rw [nat_join52 _ _ (by omega) (by omega)]
theorem put (s F N : Nat) (hs : s < 2) (hF : F < 4503599627370496) (hN : N < 2048) : bits .or .u64 ((s * 9223372036854775808 + F : Nat) : Int) ((N * 4503599627370496 : Nat) : Int) = ((s * 9223372036854775808 + (N * 4503599627370496 + F) : Nat) : Int) := by
  rw [u64_or_nat _ _ (by omega) (by omega)]
  have j1 : s * 9223372036854775808 + F = (s * 9223372036854775808) ||| F := (nat_join52 _ _ (by omega) hF).symm
  rw [j1, Nat.or_assoc, nat_join52' _ _ (by omega) hF, nat_join63 _ _ (by omega) (by omega)]

/-- odd parts are unique -/
theorem odd_unique (a b : Nat) (q r : Int) (ha : a % 2 = 1) (hb : b % 2 = 1) (h : (a : Rat) * Flo.pw q = (b : Rat) * Flo.pw r) : a = b ∧ q = r := by
  have key : ∀ (a b : Nat) (q r : Int), a % 2 = 1 → b % 2 = 1 → (a : Rat) * Flo.pw q = (b : Rat) * Flo.pw r → q ≤ r → a = b ∧ q = r := by
    intro a b q r ha hb h hle
    obtain ⟨d, hd⟩ := Int.eq_ofNat_of_zero_le (show 0 ≤ r - q by omega)
    have e : r = q + (d : Int) := by omega
    rw [e, Flo.pw_add, Flo.pw_nat] at h
    have p0 := Flo.pw_pos q
    have h2 : (a : Rat) = (b : Rat) * ((2 ^ d : Nat) : Rat) := by
      have := Rat.mul_inv_cancel (Flo.pw q) (by grind)
      have k : (a : Rat) * Flo.pw q * (Flo.pw q)⁻¹ = (b : Rat) * (Flo.pw q * ((2 ^ d : Nat) : Rat)) * (Flo.pw q)⁻¹ := by rw [h]
      grind
    have h3 : a = b * 2 ^ d := by exact_mod_cast h2
    cases d with
    | zero => exact ⟨by rw [h3]; simp, by omega⟩
    | succ d =>
      exfalso
      rw [Nat.pow_succ, ← Nat.mul_assoc] at h3
      omega
  rcases Int.le_total q r with g | g
  · exact key a b q r ha hb h g
  · obtain ⟨k1, k2⟩ := key b a r q hb ha h.symm g
    exact ⟨k1.symm, k2.symm⟩

theorem log_double (x : Nat) : ∃ p, Flo.pw p = (2 : Rat) ^ x := ⟨x, by rw [Flo.pw_nat]; push_cast; rfl⟩

end Go.Proofs.YtnmjkjjmigiabaaGreatDoor

/- Absolute values of single precision, by way of double precision: numbers of both precisions that stand for the same number, or infinity, that is not negative.
   Conditions: those that each statement names. -/
namespace Go.Proofs.YtnmjkjjmigiabaaGreatDoor
set_option linter.unusedSimpArgs false
set_option linter.unusedVariables false
open Go Go.RowKit

namespace Flo
open Ieee
/-- A number that the format has is written as it is: also the greatest ones. -/
theorem write_exact_top (f : Format) (he : 2 ≤ f.exponentBits) (s : Bool) (m : Nat) (p : Int) (k : Nat) (e : Int) (hk : (m : Rat) * pw p = (k : Rat) * pw e) (hk1 : k < 2 ^ (f.fractionBits + 1)) (hp : f.leastPlace ≤ e) (hB : e ≤ f.leastPlace + ((2 ^ f.exponentBits : Nat) - 3)) :
    ∃ m' p', f.read (f.write (.number s m p)) = .number s m' p' ∧ (m' : Rat) * pw p' = (m : Rat) * pw p := by
  have hw : f.write (.number s m p) = f.nearest s m p := rfl
  rw [hw]
  by_cases h : m = 0
  · subst h
    have : f.nearest s 0 p = f.word s 0 := by unfold Format.nearest; simp
    rw [this, zero_read]
    exact ⟨_, _, rfl, by simp⟩
  · obtain ⟨n1, n2⟩ := kept_near f s m p
    have hk0 : k ≠ 0 := by
      intro hk0; subst hk0
      have := (size_pw m p h).1
      have := pw_pos (p + m.log2)
      simp at hk
      grind
    have hlast : lastOf f m p ≤ e := by
      have a1 := (size_pw m p h).1
      have a2 := (size_pw k e hk0).2
      rw [← hk] at a2
      have a3 := lt_of_pw_lt (a := p + m.log2) (b := e + k.log2 + 1) (by grind)
      have a4 : k.log2 < f.fractionBits + 1 := by
        rw [Nat.log2_lt hk0]; exact hk1
      unfold lastOf; omega
    have hex : (keptOf f s m p : Rat) * pw (lastOf f m p) = (m : Rat) * pw p := by
      obtain ⟨d, hd⟩ := Int.le.dest hlast
      rw [hk, ← hd, Int.add_comm, pw_add, pw_nat] at n1 n2
      rw [hk, ← hd, Int.add_comm, pw_add, pw_nat]
      have hp := pw_pos (lastOf f m p)
      have q1 : keptOf f s m p ≤ k * 2 ^ d := le_nat_of _ _ (lastOf f m p) (by push_cast; grind)
      have q2 : k * 2 ^ d ≤ keptOf f s m p := le_nat_of _ _ (lastOf f m p) (by push_cast; grind)
      have q3 : keptOf f s m p = k * 2 ^ d := by omega
      rw [q3]; push_cast; grind
    have hkl : keptOf f s m p < 2 ^ (f.fractionBits + 1) := by
      rcases Nat.lt_or_ge (keptOf f s m p) (2 ^ (f.fractionBits + 1)) with h1 | h1
      · exact h1
      · exfalso
        have h2 : ((2 ^ (f.fractionBits + 1) : Nat) : Rat) ≤ (keptOf f s m p : Rat) := by exact_mod_cast h1
        rw [← pw_nat] at h2
        have h3 := Rat.mul_le_mul_of_nonneg_right h2 (Rat.le_of_lt (pw_pos (lastOf f m p)))
        rw [← pw_add, hex] at h3
        have h4 := (size_pw m p h).2
        have h5 : pw (p + m.log2 + 1) ≤ pw (((f.fractionBits + 1 : Nat) : Int) + lastOf f m p) := pw_le (by unfold lastOf; omega)
        grind
    have hr : rungOf f s m p < f.infRung := by
      have h4 : 4 ≤ 2 ^ f.exponentBits := by
        have := Nat.pow_le_pow_right (n := 2) (by omega) he
        simpa using this
      unfold rungOf Format.infRung
      have hb1 : 2 ^ (f.fractionBits + 1) = 2 * f.binade := by rw [Nat.pow_succ, Nat.mul_comm]; rfl
      have h5 : (lastOf f m p - f.leastPlace).toNat ≤ 2 ^ f.exponentBits - 3 := by omega
      have h6 := Nat.mul_le_mul_right f.binade h5
      have h7 : (2 ^ f.exponentBits - 1) * f.binade = (2 ^ f.exponentBits - 3) * f.binade + 2 * f.binade := by rw [← Nat.add_mul]; congr 1; omega
      have := bin_pos f
      omega
    obtain ⟨m', p', h1, h2, h3, h4⟩ := read_nearest f s m p h hr
    exact ⟨m', p', h1, by rw [h2]; exact hex⟩
end Flo

/-- p (single) and b (double) stand for one number or infinity, neither with a sign -/
def Tw (p b : Nat) : Prop :=
  (∃ m i n j, Ieee.single.read p = .number false m i ∧ Ieee.double.read b = .number false n j ∧ (m : Rat) * Flo.pw i = (n : Rat) * Flo.pw j) ∨
  (Ieee.single.read p = .infinity false ∧ Ieee.double.read b = .infinity false)
theorem Tw.nan {p b : Nat} (h : Tw p b) : nan32 p = false ∧ nan64 b = false := by
  unfold nan32 nan64
  rcases h with ⟨m, i, n, j, h1, h2, -⟩ | ⟨h1, h2⟩
  · rw [show FloatKind.f32.decode p = _ from h1, show FloatKind.f64.decode b = _ from h2]; exact ⟨rfl, rfl⟩
  · rw [show FloatKind.f32.decode p = _ from h1, show FloatKind.f64.decode b = _ from h2]; exact ⟨rfl, rfl⟩
theorem tw_zero : Tw 0 0 := .inl ⟨0, -149, 0, -1074, by decide, by decide, by simp⟩

theorem order_val {f g : Ieee.Format} {a b c d : Nat} (ha : Flo.IsNum f a) (hb : Flo.IsNum f b) (hc : Flo.IsNum g c) (hd : Flo.IsNum g d) (h1 : Flo.V f a = Flo.V g c) (h2 : Flo.V f b = Flo.V g d) : f.order a b = g.order c d := by
  have o := Flo.order_num f a b ha hb
  have O := Flo.order_num g c d hc hd
  rw [← h1, ← h2] at O
  have hs : ∃ r, f.order a b = some r := by
    obtain ⟨s, m, i, ha⟩ := ha
    obtain ⟨t, n, j, hb⟩ := hb
    unfold Ieee.Format.order; rw [ha, hb]; exact ⟨_, rfl⟩
  obtain ⟨r, hr⟩ := hs
  rw [hr]
  cases r
  · exact (O.1.2 (o.1.1 hr)).symm
  · exact (O.2.1.2 (o.2.1.1 hr)).symm
  · exact (O.2.2.2 (o.2.2.1 hr)).symm

theorem Tw.order {p b q c : Nat} (h : Tw p b) (k : Tw q c) : Ieee.double.order b c = Ieee.single.order p q := by
  rcases h with ⟨m, i, n, j, h1, h2, h3⟩ | ⟨h1, h2⟩
  · rcases k with ⟨m', i', n', j', k1, k2, k3⟩ | ⟨k1, k2⟩
    · refine order_val ⟨_, _, _, h2⟩ ⟨_, _, _, k2⟩ ⟨_, _, _, h1⟩ ⟨_, _, _, k1⟩ ?_ ?_
      · rw [Flo.V_eq h1, Flo.V_eq h2]; unfold Flo.val; simp only [Bool.false_eq_true, if_false]; rw [h3]
      · rw [Flo.V_eq k1, Flo.V_eq k2]; unfold Flo.val; simp only [Bool.false_eq_true, if_false]; rw [k3]
    · unfold Ieee.Format.order; rw [h1, h2, k1, k2]; try rfl
  · rcases k with ⟨m', i', n', j', k1, k2, k3⟩ | ⟨k1, k2⟩
    · unfold Ieee.Format.order; rw [h1, h2, k1, k2]; try rfl
    · unfold Ieee.Format.order; rw [h1, h2, k1, k2]; try rfl

/-- against a widened number -/
theorem Tw.order_wid {p b g : Nat} (h : Tw p b) (hg : nan32 g = false) : Ieee.double.order b (wid g) = Ieee.single.order p g := by
  cases hd : Ieee.single.read g with
  | nan s f => unfold nan32 at hg; rw [show FloatKind.f32.decode g = _ from hd] at hg; cases hg
  | infinity s =>
    have k := wid_inf hd
    rcases h with ⟨m, i, n, j, h1, h2, h3⟩ | ⟨h1, h2⟩
    · unfold Ieee.Format.order; rw [h1, h2, hd, k]; rfl
    · unfold Ieee.Format.order; rw [h1, h2, hd, k]; try rfl
  | number s m' i' =>
    obtain ⟨n', j', k, k3⟩ := wid_read hd
    rcases h with ⟨m, i, n, j, h1, h2, h3⟩ | ⟨h1, h2⟩
    · refine order_val ⟨_, _, _, h2⟩ ⟨_, _, _, k⟩ ⟨_, _, _, h1⟩ ⟨_, _, _, hd⟩ ?_ ?_
      · rw [Flo.V_eq h1, Flo.V_eq h2]; unfold Flo.val; simp only [Bool.false_eq_true, if_false]; rw [h3]
      · rw [Flo.V_eq hd, Flo.V_eq k]; unfold Flo.val; rw [k3]
    · unfold Ieee.Format.order; rw [h1, h2, hd, k]; rfl

/-- two of single precision that stand for the same one are the same, widened -/
theorem Tw.same {p q b : Nat} (h : Tw p b) (k : Tw q b) (w1 w2 : World) : sameF (fcv w1 .f32 p .f64) (fcv w2 .f32 q .f64) = true := by
  rw [fcv_wide h.nan.1, fcv_wide k.nan.1]
  unfold sameF
  rw [wid_nan h.nan.1, wid_nan k.nan.1]
  simp only [Bool.or_self, Bool.false_eq_true, if_false]
  rw [show FloatKind.f64.format = Ieee.double from rfl]
  rcases h with ⟨m, i, n, j, h1, h2, h3⟩ | ⟨h1, h2⟩
  · rcases k with ⟨m', i', n', j', k1, k2, k3⟩ | ⟨k1, k2⟩
    · rw [h2] at k2; cases k2
      obtain ⟨a, c, e1, e2⟩ := wid_read h1
      obtain ⟨a', c', e3, e4⟩ := wid_read k1
      have ev : Flo.V Ieee.double (wid p) = Flo.V Ieee.double (wid q) := by rw [Flo.V_eq e1, Flo.V_eq e3]; unfold Flo.val; rw [e2, e4, h3, k3]
      have eq : Ieee.double.order (wid p) (wid q) = some .eq := (Flo.order_num Ieee.double (wid p) (wid q) ⟨_, _, _, e1⟩ ⟨_, _, _, e3⟩).2.1.2 ev
      have e0 : Ieee.double.order (wid p) 0 = Ieee.double.order (wid q) 0 := order_val ⟨_, _, _, e1⟩ zero_num.1 ⟨_, _, _, e3⟩ zero_num.1 ev rfl
      split
      · rename_i hz
        simp only [Bool.and_eq_true, beq_iff_eq] at hz
        have z1 := (Flo.order_num Ieee.double (wid p) 0 ⟨_, _, _, e1⟩ zero_num.1).2.1.1 hz.1
        have z2 := (Flo.order_num Ieee.double (wid q) 0 ⟨_, _, _, e3⟩ zero_num.1).2.1.1 hz.2
        rw [show Flo.V Ieee.double 0 = 0 from zero_num.2] at z1 z2
        have q1 : ∀ x a c, Ieee.double.read x = .number false a c → Flo.V Ieee.double x = 0 → (floatBits .quo .f64 4607182418800017408 x).getD 0 = (floatBits .quo .f64 4607182418800017408 0).getD 0 := by
          intro x a c hx hv
          have ha : a = 0 := by
            rw [Flo.V_eq hx] at hv
            unfold Flo.val at hv
            simp only [Bool.false_eq_true, if_false] at hv
            rcases Nat.eq_zero_or_pos a with h0 | h0
            · exact h0
            · exfalso
              have h1 : (0 : Rat) < a := by exact_mod_cast h0
              have := Rat.mul_pos h1 (Flo.pw_pos c)
              grind
          subst ha
          have hz : Ieee.double.read 0 = .number false 0 (-1074) := by decide
          show ((Ieee.double.div 4607182418800017408 x).getD 0) = ((Ieee.double.div 4607182418800017408 0).getD 0)
          unfold Ieee.Format.div
          rw [hx, hz]
          cases hr : Ieee.double.read 4607182418800017408 with
          | nan s f => rfl
          | infinity s => rfl
          | number s m i => by_cases hm : m = 0 <;> simp [Ieee.Datum.quotient, hm]
        rw [q1 _ _ _ e1 z1, q1 _ _ _ e3 z2]
        simp
      · rw [eq]; rfl
    · rw [h2] at k2; cases k2
  · rcases k with ⟨m', i', n', j', k1, k2, k3⟩ | ⟨k1, k2⟩
    · rw [h2] at k2; cases k2
    · have e1 := wid_inf h1
      have e2 := wid_inf k1
      have hz : Ieee.double.read 0 = .number false 0 (-1074) := by decide
      have o1 : Ieee.double.order (wid p) 0 = some .gt := by unfold Ieee.Format.order; rw [e1, hz]; rfl
      have o2 : Ieee.double.order (wid p) (wid q) = some .eq := by unfold Ieee.Format.order; rw [e1, e2]; rfl
      rw [o1, o2]; rfl

/-- narrowed again -/
theorem tw_narrow {x z : Nat} {s : Bool} {m : Nat} {i : Int} (hx : Ieee.single.read x = .number s m i) {n : Nat} {j : Int} (hz : Ieee.double.read z = .number false n j) (he : (n : Rat) * Flo.pw j = (m : Rat) * Flo.pw i) (w : World) :
    Tw (fcv w .f64 z .f32) z ∧ fcd .f64 z .f32 = 0 := by
  obtain ⟨h1, h2, h3⟩ := single_bound hx
  have e1 : Ieee.single.leastPlace = -149 := by decide
  have e2 : (2 ^ Ieee.single.exponentBits : Nat) = 256 := by decide
  obtain ⟨m', p', w1, w4⟩ := Flo.write_exact_top Ieee.single (by decide) false n j m i he (Nat.lt_of_lt_of_le h1 (by decide)) (by omega) (by omega)
  have hd : FloatKind.f64.decode z = .number false n j := hz
  have hr : FloatKind.f32.decode (FloatKind.f32.encode (.number false n j)) = .number false m' p' := w1
  constructor
  · unfold fcv
    rw [if_neg (by decide), hd]
    simp only
    rw [hr]
    simp only [Ieee.Datum.isInfinity, Bool.false_eq_true, if_false]
    exact .inl ⟨m', p', n, j, w1, hz, w4⟩
  · unfold fcd
    rw [if_neg (by decide), hd]
    simp only
    rw [hr]
    simp [Ieee.Datum.isInfinity]
theorem tw_narrow_inf {z : Nat} (hz : Ieee.double.read z = .infinity false) (w : World) : Tw (fcv w .f64 z .f32) z ∧ fcd .f64 z .f32 = 0 := by
  have hd : FloatKind.f64.decode z = .infinity false := hz
  constructor
  · unfold fcv
    rw [if_neg (by decide), hd]
    refine .inr ⟨?_, hz⟩
    show Ieee.single.read (Ieee.single.word false Ieee.single.infRung) = _
    rw [Flo.read_word_inf, if_neg (by decide)]
  · unfold fcd
    rw [if_neg (by decide), hd]


/-! ### absolute values -/
theorem labs_read {z : Nat} (hz : z < 2 ^ 64) {s : Bool} {n : Nat} {j : Int} (h : Ieee.double.read z = .number s n j) : ∃ n' j', Ieee.double.read (labs z) = .number false n' j' ∧ (n' : Rat) * Flo.pw j' = (n : Rat) * Flo.pw j := by
  have o := Flo.order_num Ieee.double z 0 ⟨_, _, _, h⟩ zero_num.1
  rw [show Flo.V Ieee.double 0 = 0 from zero_num.2, Flo.V_eq h] at o
  have hp := Flo.pw_pos j
  have hn : (0 : Rat) ≤ n := by exact_mod_cast Nat.zero_le n
  have hnp := Rat.mul_nonneg hn (Rat.le_of_lt hp)
  unfold labs
  rw [show FloatKind.f64.format = Ieee.double from rfl]
  by_cases h1 : Ieee.double.order z 0 = some .lt
  · rw [if_pos h1]
    have hlt := o.1.1 h1
    have hs : s = true := by
      cases s with
      | true => rfl
      | false => exfalso; unfold Flo.val at hlt; simp only [Bool.false_eq_true, if_false] at hlt; grind
    subst hs
    exact ⟨n, j, neg_read z hz true n j h, rfl⟩
  · rw [if_neg h1]
    by_cases h2 : Ieee.double.order z 0 = some .eq
    · rw [if_pos h2]
      have hv := o.2.1.1 h2
      refine ⟨0, -1074, by decide, ?_⟩
      unfold Flo.val at hv
      cases s <;> simp at hv ⊢ <;> grind
    · rw [if_neg h2]
      have hs : s = false := by
        cases s with
        | false => rfl
        | true =>
          exfalso
          unfold Flo.val at o
          simp only [if_true] at o
          rcases Classical.em (-1 * ((n : Rat) * Flo.pw j) < 0) with h3 | h3
          · exact h1 (o.1.2 h3)
          · exact h2 (o.2.1.2 (by grind))
      subst hs
      exact ⟨n, j, h, rfl⟩
theorem neg_inf {z : Nat} (hz : z < 2 ^ 64) (h : Ieee.double.read z = .infinity true) : Ieee.double.read (Op.negFloat .f64 z) = .infinity false := by
  have hsw : Ieee.double.signWeight = 9223372036854775808 := by decide
  have hir : Ieee.double.infRung = 9218868437227405312 := by decide
  have hz2 : z = 18442240474082181120 := by
    unfold Ieee.Format.read at h
    rw [hsw, hir] at h
    simp only at h
    split at h
    · cases h
    · split at h
      · cases h
      · split at h
        · rename_i g
          have hs : (z / 9223372036854775808 % 2 == 1) = true := by injection h
          simp only [beq_iff_eq] at hs
          omega
        · cases h
  rw [hz2]
  decide
theorem labs_inf {z : Nat} (hz : z < 2 ^ 64) {s : Bool} (h : Ieee.double.read z = .infinity s) : Ieee.double.read (labs z) = .infinity false := by
  have h0 : Ieee.double.read 0 = .number false 0 (-1074) := by decide
  unfold labs
  rw [show FloatKind.f64.format = Ieee.double from rfl]
  cases s with
  | true =>
    have h1 : Ieee.double.order z 0 = some .lt := by unfold Ieee.Format.order; rw [h, h0]; rfl
    rw [if_pos h1]
    exact neg_inf hz h
  | false =>
    have h1 : Ieee.double.order z 0 = some .gt := by unfold Ieee.Format.order; rw [h, h0]; rfl
    rw [h1]
    exact h

/-- THE ABSOLUTE VALUE IN SINGLE PRECISION, AND THAT OF THE MODEL: both stand for the same -/
theorem tw_abs {x : Nat} (hx : nan32 x = false) (w : World) : Tw (fcv w .f64 (wid x % signBit) .f32) (labs (wid x)) ∧ fcd .f64 (wid x % signBit) .f32 = 0 := by
  have hm := mod_read (wid x)
  cases hd : Ieee.single.read x with
  | nan s f => unfold nan32 at hx; rw [show FloatKind.f32.decode x = _ from hd] at hx; cases hx
  | infinity s =>
    have hw := wid_inf hd
    rw [show FloatKind.f64.decode (wid x) = _ from hw] at hm
    have k := tw_narrow_inf hm w
    refine ⟨?_, k.2⟩
    rcases k.1 with ⟨m, i, n, j, h1, h2, h3⟩ | ⟨h1, h2⟩
    · rw [show Ieee.double.read (wid x % signBit) = _ from hm] at h2; cases h2
    · exact .inr ⟨h1, labs_inf (wid_lt x) hw⟩
  | number s m i =>
    obtain ⟨n, j, hw, he⟩ := wid_read hd
    rw [show FloatKind.f64.decode (wid x) = _ from hw] at hm
    have k := tw_narrow hd hm he w
    refine ⟨?_, k.2⟩
    obtain ⟨n', j', l1, l2⟩ := labs_read (wid_lt x) hw
    rcases k.1 with ⟨m1, i1, n1, j1, h1, h2, h3⟩ | ⟨h1, h2⟩
    · rw [show Ieee.double.read (wid x % signBit) = _ from hm] at h2
      cases h2
      exact .inl ⟨m1, i1, n', j', h1, l1, by rw [h3, l2]⟩
    · rw [show Ieee.double.read (wid x % signBit) = _ from hm] at h2; cases h2

end Go.Proofs.YtnmjkjjmigiabaaGreatDoor

/- Plain facts: of two numbers in a format's words that are equal, and have one sign, the words are the same; what is the same in single precision.
   Conditions: those that each statement names. No program stands in it. -/
namespace Go.Proofs.YtnmjkjjmigiabaaGreatDoor
set_option linter.unusedSimpArgs false
set_option linter.unusedVariables false
open Go

namespace Flo
open Ieee
/-- the size of a rung, in units of the least place -/
def rungV (B r : Nat) : Nat := if r < B then r else (B + r % B) * 2 ^ (r / B - 1)
theorem rungV_succ (B r : Nat) (hB : 0 < B) : rungV B r < rungV B (r + 1) := by
  unfold rungV
  by_cases h : r + 1 < B
  · rw [if_pos h, if_pos (by omega)]; omega
  · rw [if_neg h]
    by_cases h1 : r < B
    · have e : r + 1 = B := by omega
      rw [if_pos h1, e, Nat.mod_self, Nat.div_self hB]
      simp; omega
    · rw [if_neg h1]
      have hd : 1 ≤ r / B := (Nat.le_div_iff_mul_le hB).2 (by omega)
      by_cases h2 : r % B + 1 < B
      · have e1 : (r + 1) % B = r % B + 1 := by rw [Nat.add_mod, Nat.mod_eq_of_lt (show 1 < B by omega)]; exact Nat.mod_eq_of_lt h2
        have e2 : (r + 1) / B = r / B := by
          have a := Nat.div_add_mod r B
          rw [show r + 1 = B * (r / B) + (r % B + 1) from by omega, Nat.mul_add_div hB, Nat.div_eq_of_lt h2]; omega
        rw [e1, e2]
        exact Nat.mul_lt_mul_of_pos_right (by omega) (Nat.two_pow_pos _)
      · have hlt := Nat.mod_lt r hB
        have e0 : r + 1 = B * (r / B + 1) := by have a := Nat.div_add_mod r B; rw [Nat.mul_add]; omega
        have e1 : (r + 1) % B = 0 := by rw [e0]; exact Nat.mul_mod_right _ _
        have e2 : (r + 1) / B = r / B + 1 := by rw [e0]; exact Nat.mul_div_cancel_left _ hB
        rw [e1, e2]
        have e3 : r / B + 1 - 1 = (r / B - 1) + 1 := by omega
        rw [e3, Nat.pow_succ, Nat.mul_comm (2 ^ _) 2, ← Nat.mul_assoc]
        exact Nat.mul_lt_mul_of_pos_right (by omega) (Nat.two_pow_pos _)
theorem rungV_lt (B : Nat) (hB : 0 < B) : ∀ (d r : Nat), rungV B r < rungV B (r + d + 1)
  | 0, r => rungV_succ B r hB
  | d + 1, r => Nat.lt_trans (rungV_lt B hB d r) (rungV_succ B (r + d + 1) hB)
theorem rungV_inj (B : Nat) (hB : 0 < B) {r s : Nat} (h : rungV B r = rungV B s) : r = s := by
  rcases Nat.lt_trichotomy r s with h1 | h1 | h1
  · have := rungV_lt B hB (s - r - 1) r
    rw [show r + (s - r - 1) + 1 = s by omega] at this; omega
  · exact h1
  · have := rungV_lt B hB (r - s - 1) s
    rw [show s + (r - s - 1) + 1 = r by omega] at this; omega

theorem read_rung (f : Format) {b : Nat} {s : Bool} {m : Nat} {p : Int} (h : f.read b = .number s m p) :
    (b / f.signWeight % 2 == 1) = s ∧ (m : Rat) * pw p = (rungV f.binade (b % f.signWeight) : Rat) * pw f.leastPlace := by
  unfold Format.read at h
  simp only at h
  split at h
  · rename_i h1
    injection h with h2 h3 h4
    subst h3; subst h4
    exact ⟨h2, by unfold rungV; rw [if_pos h1]⟩
  · rename_i h1
    split at h
    · rename_i h5
      injection h with h2 h3 h4
      subst h3; subst h4
      refine ⟨h2, ?_⟩
      unfold rungV
      rw [if_neg h1, Int.add_comm, pw_add, pw_nat]
      push_cast
      grind
    · split at h <;> cases h

/-- NUMBERS THAT ARE EQUAL AND HAVE ONE SIGN ARE ONE WORD -/
theorem read_inj (f : Format) {a b : Nat} {s : Bool} {m n : Nat} {p q : Int} (ha : f.read a = .number s m p) (hb : f.read b = .number s n q) (hal : a < 2 * f.signWeight) (hbl : b < 2 * f.signWeight) (h : (m : Rat) * pw p = (n : Rat) * pw q) : a = b := by
  obtain ⟨a1, a2⟩ := read_rung f ha
  obtain ⟨b1, b2⟩ := read_rung f hb
  rw [a2, b2] at h
  have hp := pw_pos f.leastPlace
  have h2 : (rungV f.binade (a % f.signWeight) : Rat) = (rungV f.binade (b % f.signWeight) : Rat) := by
    have h3 : ((rungV f.binade (a % f.signWeight) : Rat) - (rungV f.binade (b % f.signWeight) : Rat)) * pw f.leastPlace = 0 := by grind
    rcases Rat.mul_eq_zero.1 h3 with h4 | h4
    · grind
    · grind
  have h4 := rungV_inj f.binade (bin_pos f) (Rat.natCast_inj.1 h2)
  have hs := sw_pos f
  have e1 := Nat.div_add_mod a f.signWeight
  have e2 := Nat.div_add_mod b f.signWeight
  have l1 : a / f.signWeight < 2 := (Nat.div_lt_iff_lt_mul hs).2 hal
  have l2 : b / f.signWeight < 2 := (Nat.div_lt_iff_lt_mul hs).2 hbl
  have e3 : a / f.signWeight = b / f.signWeight := by
    rw [← b1] at a1
    have g1 : a / f.signWeight % 2 = a / f.signWeight := Nat.mod_eq_of_lt l1
    have g2 : b / f.signWeight % 2 = b / f.signWeight := Nat.mod_eq_of_lt l2
    rw [g1, g2] at a1
    have : (a / f.signWeight = 1) ↔ (b / f.signWeight = 1) := by rw [← beq_iff_eq (a := a / f.signWeight), a1, beq_iff_eq]
    omega
  rw [← e1, ← e2, e3, h4]
theorem inf_word (f : Format) {b : Nat} {s : Bool} (h : f.read b = .infinity s) (hb : b < 2 * f.signWeight) : b = f.word s f.infRung := by
  have hs := sw_pos f
  have e1 := Nat.div_add_mod b f.signWeight
  have l1 : b / f.signWeight < 2 := (Nat.div_lt_iff_lt_mul hs).2 hb
  have g1 : b / f.signWeight % 2 = b / f.signWeight := Nat.mod_eq_of_lt l1
  unfold Format.read at h
  simp only at h
  split at h
  · cases h
  · split at h
    · cases h
    · split at h
      · rename_i h1
        injection h with h2
        rw [g1] at h2
        unfold Format.word
        cases s with
        | true =>
          have : b / f.signWeight = 1 := by simpa using h2
          rw [this] at e1; simp; omega
        | false =>
          have : ¬ b / f.signWeight = 1 := by simpa using h2
          have : b / f.signWeight = 0 := by omega
          rw [this] at e1; simp; omega
      · cases h
theorem same_sign {s t : Bool} {m n : Nat} {p q : Int} (h : val s m p = val t n q) (h0 : val s m p ≠ 0) : s = t ∧ (m : Rat) * pw p = (n : Rat) * pw q := by
  have a := Rat.mul_nonneg (show (0 : Rat) ≤ m by exact_mod_cast Nat.zero_le m) (Rat.le_of_lt (pw_pos p))
  have b := Rat.mul_nonneg (show (0 : Rat) ≤ n by exact_mod_cast Nat.zero_le n) (Rat.le_of_lt (pw_pos q))
  unfold val at h h0
  cases s <;> cases t <;> simp at h h0 ⊢ <;> grind
theorem val_zero_mag {s : Bool} {m : Nat} {p : Int} (h : val s m p = 0) : (m : Rat) * pw p = 0 := by
  unfold val at h
  cases s <;> simp at h ⊢ <;> grind
end Flo

theorem one_over_zero {z : Nat} {s : Bool} {p : Int} (h : Ieee.double.read z = .number s 0 p) : (Ieee.double.order ((floatBits .quo .f64 4607182418800017408 z).getD 0) 0 == some .gt) = !s := by
  have h1 : Ieee.double.read 4607182418800017408 = .number false 4503599627370496 (-52) := by decide
  have h2 : floatBits .quo .f64 4607182418800017408 z = some (Ieee.double.word s Ieee.double.infRung) := by
    show Ieee.double.div 4607182418800017408 z = _
    unfold Ieee.Format.div
    rw [h1, h]
    cases s <;> simp [Ieee.Datum.quotient, Ieee.Format.write]
  rw [h2]
  cases s <;> decide

/-- two of single precision are the same: one word, or both NaN -/
def sameX (x y : Nat) : Bool := x == y || (nan32 x && nan32 y)
theorem sameX_wide {x y : Nat} (hx : nan32 x = false) (hy : nan32 y = false) (lx : x < 2 ^ 32) (ly : y < 2 ^ 32) : sameF (wid x) (wid y) = sameX x y := by
  have esw : 2 * Ieee.single.signWeight = 2 ^ 32 := by decide
  unfold sameX
  rw [hx, hy]
  simp only [Bool.and_self, Bool.or_false]
  by_cases hxy : x = y
  · subst hxy; rw [sameF_self]; simp
  · rw [show (x == y) = false from by simpa using hxy]
    unfold sameF
    rw [wid_nan hx, wid_nan hy]
    simp only [Bool.or_self, Bool.false_eq_true, if_false]
    rw [show FloatKind.f64.format = Ieee.double from rfl]
    cases h1 : Ieee.single.read x with
    | nan s f => unfold nan32 at hx; rw [show FloatKind.f32.decode x = _ from h1] at hx; cases hx
    | infinity s =>
      have k1 := wid_inf h1
      have hz : Ieee.double.read 0 = .number false 0 (-1074) := by decide
      have o1 : (Ieee.double.order (wid x) 0 == some .eq) = false := by unfold Ieee.Format.order; rw [k1, hz]; cases s <;> rfl
      rw [o1]
      simp only [Bool.false_and, Bool.false_eq_true, if_false]
      cases h2 : Ieee.single.read y with
      | nan s f => unfold nan32 at hy; rw [show FloatKind.f32.decode y = _ from h2] at hy; cases hy
      | infinity t =>
        have hst : s ≠ t := by
          intro e; subst e
          exact hxy ((Flo.inf_word _ h1 (by omega)).trans (Flo.inf_word _ h2 (by omega)).symm)
        unfold Ieee.Format.order; rw [k1, wid_inf h2]
        cases s <;> cases t <;> first | (exfalso; exact hst rfl) | rfl
      | number t n j =>
        obtain ⟨m', p', k2, -⟩ := wid_read h2
        unfold Ieee.Format.order; rw [k1, k2]; cases s <;> rfl
    | number s m i =>
      obtain ⟨m', i', k1, e1⟩ := wid_read h1
      cases h2 : Ieee.single.read y with
      | nan s f => unfold nan32 at hy; rw [show FloatKind.f32.decode y = _ from h2] at hy; cases hy
      | infinity t =>
        have k2 := wid_inf h2
        have hz : Ieee.double.read 0 = .number false 0 (-1074) := by decide
        have o1 : (Ieee.double.order (wid y) 0 == some .eq) = false := by unfold Ieee.Format.order; rw [k2, hz]; cases t <;> rfl
        rw [o1]
        simp only [Bool.and_false, Bool.false_eq_true, if_false]
        unfold Ieee.Format.order; rw [k1, k2]; cases t <;> rfl
      | number t n j =>
        obtain ⟨n', j', k2, e2⟩ := wid_read h2
        have ox := Flo.order_num Ieee.double (wid x) 0 ⟨_, _, _, k1⟩ zero_num.1
        have oy := Flo.order_num Ieee.double (wid y) 0 ⟨_, _, _, k2⟩ zero_num.1
        have o := Flo.order_num Ieee.double (wid x) (wid y) ⟨_, _, _, k1⟩ ⟨_, _, _, k2⟩
        rw [show Flo.V Ieee.double 0 = 0 from zero_num.2, Flo.V_eq k1] at ox
        rw [show Flo.V Ieee.double 0 = 0 from zero_num.2, Flo.V_eq k2] at oy
        rw [Flo.V_eq k1, Flo.V_eq k2] at o
        have hinj : s = t → (m' : Rat) * Flo.pw i' = (n' : Rat) * Flo.pw j' → False := by
          intro es ev
          subst es
          exact hxy (Flo.read_inj _ h1 h2 (by omega) (by omega) (by rw [← e1, ← e2]; exact ev))
        split
        · rename_i hz
          simp only [Bool.and_eq_true, beq_iff_eq] at hz
          have z1 := Flo.val_zero_mag (ox.2.1.1 hz.1)
          have z2 := Flo.val_zero_mag (oy.2.1.1 hz.2)
          have m0 : m' = 0 := by
            rcases Rat.mul_eq_zero.1 z1 with h | h
            · exact_mod_cast h
            · have := Flo.pw_pos i'; grind
          have n0 : n' = 0 := by
            rcases Rat.mul_eq_zero.1 z2 with h | h
            · exact_mod_cast h
            · have := Flo.pw_pos j'; grind
          subst m0; subst n0
          rw [one_over_zero k1, one_over_zero k2]
          cases s <;> cases t <;> first | rfl | (exfalso; exact hinj rfl (by rw [z1, z2]))
        · rename_i hz
          cases ho : (Ieee.double.order (wid x) (wid y) == some .eq) with
          | false => rfl
          | true =>
            exfalso
            have ev := o.2.1.1 (by simpa using ho)
            by_cases h0 : Flo.val s m' i' = 0
            · apply hz
              rw [ox.2.1.2 h0, oy.2.1.2 (by rw [← ev]; exact h0)]; rfl
            · obtain ⟨q1, q2⟩ := Flo.same_sign ev h0
              exact hinj q1 q2
theorem sameX_any {x y : Nat} (lx : x < 2 ^ 32) (ly : y < 2 ^ 32) (w1 w2 : World) : sameF (fcv w1 .f32 x .f64) (fcv w2 .f32 y .f64) = sameX x y := by
  cases hx : nan32 x with
  | true =>
    have h1 := nan_wide hx w1
    cases hy : nan32 y with
    | true =>
      have h2 := nan_wide hy w2
      unfold sameF sameX; rw [h1, h2, hx, hy]; simp
    | false =>
      have h2 := wid_nan hy
      rw [fcv_wide hy]
      unfold sameF sameX; rw [h1, h2, hx, hy]
      have : x ≠ y := by intro e; subst e; rw [hx] at hy; cases hy
      simp [this]
  | false =>
    cases hy : nan32 y with
    | true =>
      have h1 := wid_nan hx
      have h2 := nan_wide hy w2
      rw [fcv_wide hx]
      unfold sameF sameX; rw [h1, h2, hx, hy]
      have : x ≠ y := by intro e; subst e; rw [hx] at hy; cases hy
      simp [this]
    | false => rw [fcv_wide hx, fcv_wide hy, sameX_wide hx hy lx ly]
theorem sameX_self (x : Nat) : sameX x x = true := by unfold sameX; simp

end Go.Proofs.YtnmjkjjmigiabaaGreatDoor
