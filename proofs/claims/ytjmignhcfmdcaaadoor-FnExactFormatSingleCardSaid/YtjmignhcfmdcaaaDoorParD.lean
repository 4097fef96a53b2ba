/- The model's l1Parts, of any number above 0.
   Conditions: those that each statement names. -/
import Derived.Test.YtjmignhcfmdcaaaDoorParts
import Derived.Test.YtjmignhcfmdcaaaDoorDy
namespace Go.Proofs.YtjmignhcfmdcaaaDoor
set_option linter.unusedSimpArgs false
set_option linter.unusedVariables false
open Go Go.RowKit

theorem half_exact (m : Nat) (p : Int) (hp : -1073 ≤ p) (hm0 : m ≠ 0) (hm : m < 9007199254740992) (hp2 : p ≤ 971) (y : Nat) (n : Nat) (q : Int) (hy : Ieee.double.read y = .number false n q) (hv : (n : Rat) * Flo.pw q = (m : Rat) * Flo.pw p) :
    ∃ z n' q', floatBits .quo .f64 y 4611686018427387904 = some z ∧ Ieee.double.read z = .number false n' q' ∧ (n' : Rat) * Flo.pw q' = (m : Rat) * Flo.pw (p - 1) := by
  have hD : Flo.Dy p (m : Int) y := ⟨⟨_, _, _, hy⟩, by
    rw [show Flo.W y = _ from Flo.V_eq hy]
    unfold Flo.val
    simp only [Bool.false_eq_true, if_false]
    rw [hv]
    push_cast
    grind⟩
  obtain ⟨z, z1, z2⟩ := Flo.dy_div hD (y := 4611686018427387904) (d := 1) (by decide) (by simpa using hm) (by omega) (by omega)
  obtain ⟨⟨s, n', q', hz⟩, vz⟩ := z2
  have hpos : (0 : Rat) ≤ (m : Rat) * Flo.pw (p - 1) := Flo.mag_nonneg m (p - 1)
  rw [show Flo.W z = _ from Flo.V_eq hz] at vz
  have ec : (((m : Nat) : Int) : Rat) = (m : Rat) := by exact_mod_cast rfl
  rw [ec] at vz
  refine ⟨z, n', q', z1, ?_, ?_⟩
  · cases s with
    | false => exact hz
    | true =>
      exfalso
      have p0 := Flo.pw_pos (p - 1)
      have m1 : (1 : Rat) ≤ (m : Rat) := by exact_mod_cast Nat.pos_of_ne_zero hm0
      have := Rat.mul_le_mul_of_nonneg_right m1 (Rat.le_of_lt p0)
      have := Flo.mag_nonneg n' q'
      unfold Flo.val at vz; simp at vz; grind
  · cases s with
    | false => unfold Flo.val at vz; simp at vz; exact vz
    | true =>
      have := Flo.mag_nonneg n' q'
      unfold Flo.val at vz; simp at vz; grind

def P1I (m : Nat) (p : Int) (w : World) (x e : Value) (wr : World) : Prop :=
  ∃ (j y m' : Nat) (p' : Int), e = .int .i64 (j : Int) ∧ x = .float .f64 y ∧ Ieee.double.read y = .number false m' p' ∧ (m' : Rat) * Flo.pw p' = (m : Rat) * Flo.pw (p - j) ∧ (j : Int) ≤ p ∧ w = wr
theorem ge_53 {y : Nat} (hy : Flo.Nm y) : (FloatKind.f64.format.order y 4845873199050653696 == some .gt || FloatKind.f64.format.order y 4845873199050653696 == some .eq) = decide (Flo.pw 53 ≤ Flo.W y) := by
  have h53 : Ieee.double.read 4845873199050653696 = .number false 4503599627370496 1 := by decide
  have o := Flo.order_num Ieee.double y 4845873199050653696 hy ⟨_, _, _, h53⟩
  have e2 : Flo.V Ieee.double 4845873199050653696 = Flo.pw 53 := by
    rw [Flo.V_eq h53]; unfold Flo.val
    have : Flo.pw 1 = 2 := Flo.pw_one
    rw [this, Flo.p53]
    have : ((4503599627370496 : Nat) : Rat) = 4503599627370496 := rfl
    rw [this]; simp; grind
  rw [e2] at o
  rw [show FloatKind.f64.format = Ieee.double from rfl]
  by_cases h : Flo.pw 53 ≤ Flo.W y
  · rw [decide_eq_true h, Bool.or_eq_true, beq_iff_eq, beq_iff_eq, o.2.2, o.2.1]
    rcases Rat.le_iff_lt_or_eq.1 h with g | g
    · exact .inl g
    · exact .inr g.symm
  · rw [decide_eq_false h]
    have : Ieee.double.order y 4845873199050653696 = some .lt := o.1.2 (by show Flo.W y < _; grind)
    rw [this]; rfl

set_option maxRecDepth 100000 in
set_option maxHeartbeats 1600000 in
theorem l1Parts_big (x m0 : Nat) (p0 : Int) (h : Ieee.double.read x = .number false m0 p0) (hm : m0 ≠ 0) (hB : ¬ (m0 : Rat) * Flo.pw p0 < Flo.pw 53) (w : World) :
    Calls Tryd.prog 17 #[.float .f64 x] w (PartP ((m0 : Rat) * Flo.pw p0) w) := by
  obtain ⟨b1, b2, b3⟩ := Flo.read_bound Ieee.double (by decide) x false m0 p0 h
  have b3' : p0 ≤ 971 := by
    have e1 : (2 ^ Ieee.double.exponentBits : Nat) = 2048 := by decide
    rw [Flo.lp_double, e1] at b3; omega
  have hp0 : 0 < p0 := by
    rcases Int.lt_or_le 0 p0 with g | g
    · exact g
    · exfalso
      have l := Flo.pw_le g
      rw [Flo.pw_zero] at l
      have hm : (m0 : Rat) < 9007199254740992 := by exact_mod_cast b1
      have h0 : (0 : Rat) ≤ (m0 : Rat) := by exact_mod_cast Nat.zero_le m0
      have := Rat.mul_le_mul_of_nonneg_left l h0
      rw [Flo.p53] at hB
      grind
  have H0 := Lib.hid (And.intro h hm)
  have M0 := Lib.hid (show m0 < 9007199254740992 from b1)
  clear h hm b1 b2 b3 hB
  go_enter Tryd.func17, Tryd.ntmps17
  go_wp2_with fail
  go_loopw [0, 4] (fun y e wr => P1I m0 p0 w y e wr) (fun _ e _ => (p0 - intOf e).toNat)
  case atStart => exact ⟨0, x, m0, p0, rfl, rfl, H0.out.1, by simp, by omega, rfl⟩
  case round =>
    obtain ⟨J, y0, m, p, rfl, rfl, hy0, hv0, hj0, rfl⟩ := hrel
    have Hy0 := Lib.hid (And.intro hy0 hv0)
    have ey0 : Flo.W y0 = (m0 : Rat) * Flo.pw (p0 - J) := by rw [show Flo.W y0 = _ from Flo.V_eq hy0]; unfold Flo.val; simp; exact hv0
    have hge := ge_53 (y := y0) ⟨_, _, _, hy0⟩
    have hJ : (J : Int) ≤ 2000 := by omega
    by_cases hbig : Flo.pw 53 ≤ Flo.W y0
    · rw [decide_eq_true hbig] at hge
      have hlt : (J : Int) < p0 := by
        rcases Int.lt_or_le (J : Int) p0 with g | g
        · exact g
        · exfalso
          rw [ey0] at hbig
          have l := Flo.pw_le (show p0 - J ≤ 0 by omega)
          rw [Flo.pw_zero] at l
          have hm : (m0 : Rat) < 9007199254740992 := by exact_mod_cast M0.out
          have h0 : (0 : Rat) ≤ (m0 : Rat) := by exact_mod_cast Nat.zero_le m0
          have := Rat.mul_le_mul_of_nonneg_left l h0
          rw [Flo.p53] at hbig
          grind
      obtain ⟨z, n', q', z1, z2, z3⟩ := half_exact m0 (p0 - J) (by omega) H0.out.2 M0.out (by omega) y0 m p hy0 hv0
      have r1 : ∀ w, fres w .quo .f64 y0 4611686018427387904 = z := fun w => by unfold fres; rw [z1]
      have r2 : fdr .quo .f64 y0 4611686018427387904 = 0 := by unfold fdr; rw [z1]; rfl
      have Z := Lib.hid (And.intro z2 z3)
      clear hy0 hv0 ey0 hbig z1 z2 z3
      go_wp2_with fail
      go_roundw
      case rel => exact ⟨J + 1, z, n', q', by rw [show ((J + 1 : Nat) : Int) = (J : Int) + 1 from by omega], rfl, Z.out.1, by rw [Z.out.2]; congr 2; omega, by omega, rfl⟩
      case measure => simp only [intOf]; omega
    · rw [decide_eq_false hbig] at hge
      have hB : (m : Rat) * Flo.pw p < Flo.pw 53 := by rw [hv0, ← ey0]; grind
      obtain ⟨iv, t1, t2, t3⟩ := Flo.trunc_ok y0 m p hy0 hB
      have hi := Flo.trunc_lt t2 (by grind)
      have ho := order_int (x := y0) (iv := iv) ⟨_, _, _, hy0⟩ hi
      obtain ⟨d, hd⟩ := Int.eq_ofNat_of_zero_le (show 0 ≤ p0 - J by omega)
      have eN : Flo.W y0 = ((m0 * 2 ^ d : Nat) : Rat) := by rw [ey0, hd, Flo.pw_nat]; push_cast; rfl
      have heq : Flo.W y0 = (iv : Rat) := by
        have k := Flo.int_eq (a := iv) (b := m0 * 2 ^ d) (by rw [← eN]; exact t2) (by rw [← eN]; exact t3)
        rw [eN, k]
      have cv := fun w => run_convert_float_int (P := Tryd.prog) w 25 3 .f64 .i64 y0 (iv : Int) (by kernel_rfl) Tryd.underlying3 t1
      rw [decide_eq_true heq] at ho
      have ho2 : (FloatKind.f64.format.order y0 (floatOfInt .f64 (iv : Int)) != some .eq) = false := by unfold bne; rw [ho]; rfl
      have hiv1 : 1 ≤ iv := by
        rcases Nat.eq_zero_or_pos iv with h0 | h0
        · exfalso
          rw [h0, ey0] at heq
          exact H0.out.2 (Flo.mag_zero (by rw [heq]; exact Rat.le_refl))
        · exact h0
      have Hv := Lib.hid (show (iv : Rat) * Flo.pw ((J : Int) + (0 : Nat)) = (m0 : Rat) * Flo.pw p0 from by
        rw [← heq, ey0, Rat.mul_assoc, ← Flo.pw_add]
        congr 2
        omega)
      clear hy0 hv0 ey0 hbig t2 t3 eN heq hB t1 hd
      go_wp2_with fail
      clear hge
      go_loopw [0, 4] (fun y e wr => y = .float .f64 y0 ∧ e = .int .i64 (J : Int) ∧ w = wr) (fun _ _ _ => 0)
      case atStart => exact ⟨rfl, rfl, rfl⟩
      case round =>
        obtain ⟨rfl, rfl, rfl⟩ := hrel
        go_wp2_with fail
        clear ho ho2
        go_loopw [4, 5] (fun e a wr => P3I ((m0 : Rat) * Flo.pw p0) (J : Int) w e a wr) (fun _ a _ => (intOf a).toNat)
        case atStart => exact ⟨0, iv, by simp, rfl, hiv1, by simpa using hi, Hv.out, rfl⟩
        case round =>
          obtain ⟨t, b, rfl, rfl, hb1, hbt, hbv, rfl⟩ := hrel
          have ht := pow_t hb1 hbt
          have Hb := Lib.hid (And.intro hbt hbv)
          have hb53 : b < 9007199254740992 := Nat.lt_of_le_of_lt (Nat.le_mul_of_pos_right b (Nat.two_pow_pos t)) hbt
          clear hbt hbv
          by_cases h2 : b % 2 = 0
          · have hm2 : (b : Int) % 2 = 0 := by omega
            go_wp2_with fail
            go_roundw
            case rel =>
              refine ⟨t + 1, b / 2, by rw [show (J : Int) + ((t + 1 : Nat) : Int) = (J : Int) + (t : Int) + 1 from by omega], by rw [show ((b / 2 : Nat) : Int) = (b : Int) / 2 from by omega], by omega, ?_, ?_, rfl⟩
              · have := Hb.out.1
                rw [Nat.pow_succ, Nat.mul_comm (2 ^ t) 2, ← Nat.mul_assoc, show b / 2 * 2 = b by omega]; exact this
              · rw [← Hb.out.2, show (J : Int) + ((t + 1 : Nat) : Int) = (J : Int) + (t : Int) + 1 from by omega, Flo.pw_succ]
                have e : (b : Rat) = 2 * ((b / 2 : Nat) : Rat) := by
                  have : ((2 * (b / 2) : Nat) : Rat) = (b : Rat) := by rw [show 2 * (b / 2) = b by omega]
                  rw [← this]; push_cast; rfl
                rw [e]; grind
            case measure => simp only [intOf]; omega
          · have hm2 : (b : Int) % 2 = 1 := by omega
            go_wp2_with fail
            go_ret2
            exact ⟨b, _, rfl, by omega, hb53, Hb.out.2, by omega, by omega, rfl⟩
theorem l1Parts_any (x m : Nat) (p : Int) (h : Ieee.double.read x = .number false m p) (hm : m ≠ 0) (w : World) :
    Calls Tryd.prog 17 #[.float .f64 x] w (PartP ((m : Rat) * Flo.pw p) w) := by
  by_cases hB : (m : Rat) * Flo.pw p < Flo.pw 53
  · exact l1Parts_ok x m p h hm hB w
  · exact l1Parts_big x m p h hm hB w

end Go.Proofs.YtjmignhcfmdcaaaDoor
