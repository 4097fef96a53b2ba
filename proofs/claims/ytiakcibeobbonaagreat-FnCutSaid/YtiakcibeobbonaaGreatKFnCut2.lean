/- Texts of a proof, put together: Quo, Beat, Body, Small, Step, Ring, RingB, Row, Fls, Text, Mono, Parts, Dy, Bits, Tw, Inj, FormS.
   Conditions: those that each statement names. -/
import Derived.Test.YtiakcibeobbonaaGreatKFnCut1
import Derived.ProofKit
import Derived.OpenShut
import Derived.ShutString
import Derived.ChangeOld
import Derived.Laws.BytesArg
import Derived.Laws.Concat
import Derived.Laws.FloatArith
/- Plain facts: the quotient of numbers of moderate size exists, and its product with the divisor is near the dividend, as the law's test of it says.
   Conditions: those that each statement names. -/
namespace Go.Proofs.YtiakcibeobbonaaGreat
set_option linter.unusedSimpArgs false
set_option linter.unusedVariables false
open Go Go.RowKit

theorem ra_ab (q : Rat) : Flo.Ab q (ra q) := by unfold ra Flo.Ab; split <;> grind
theorem ra_le {q B : Rat} (h : Flo.Ab q B) : ra q ≤ B := by unfold ra; unfold Flo.Ab at h; split <;> grind
theorem ra_or (q : Rat) : q = ra q ∨ q = -ra q := by unfold ra; split <;> grind

theorem abs_num (x : Nat) (h : Flo.Nm x) : Flo.Nm (Op.Complex.abs x) ∧ Flo.W (Op.Complex.abs x) = ra (Flo.W x) := by
  obtain ⟨s, m, p, hr⟩ := h
  have h1 := mod_read x
  rw [show FloatKind.f64.decode x = _ from hr] at h1
  have h2 : Ieee.double.read (Op.Complex.abs x) = .number false m p := h1
  refine ⟨⟨_, _, _, h2⟩, ?_⟩
  rw [show Flo.W (Op.Complex.abs x) = _ from Flo.V_eq h2, show Flo.W x = _ from Flo.V_eq hr]
  have hmp : 0 ≤ (m : Rat) * Flo.pw p := by
    have a1 : (0 : Rat) ≤ m := by exact_mod_cast Nat.zero_le m
    exact Rat.mul_nonneg a1 (Rat.le_of_lt (Flo.pw_pos p))
  unfold Flo.val ra
  cases s
  · simp only [Bool.false_eq_true, if_false]; rw [if_neg (by grind)]
  · simp only [if_true, Bool.false_eq_true, if_false]; split <;> grind

theorem absGe_iff (c d : Nat) (hc : Flo.Nm c) (hd : Flo.Nm d) : absGe c d = true ↔ ra (Flo.W d) ≤ ra (Flo.W c) := by
  have lc := abs_num c hc
  have ld := abs_num d hd
  have o := Flo.order_num Ieee.double _ _ lc.1 ld.1
  rw [show Flo.V Ieee.double (Op.Complex.abs c) = _ from lc.2, show Flo.V Ieee.double (Op.Complex.abs d) = _ from ld.2] at o
  unfold absGe
  rw [show FloatKind.f64.format = Ieee.double from rfl, Bool.or_eq_true, beq_iff_eq, beq_iff_eq, o.2.2, o.2.1]
  constructor
  · intro h; rcases h with h | h <;> grind
  · intro h; grind

theorem fA_some (op : BinOp) (a b : Nat) : fA op .f64 (some a) (some b) = floatBits op .f64 a b := rfl
theorem fab_num {x : Nat} (h : Flo.Nm x) : fab .f64 x = some x := fab_of_fin ((fin_iff .f64 x).2 h)
theorem fin_num {x : Nat} (h : Flo.Nm x) : fin .f64 x = true := (fin_iff .f64 x).2 h

/-- where the walk of the quotient's main road says so, the contract of DivideDouble says so -/
theorem divD_of_main (a b c d e f : Nat) (ha : Flo.Nm a) (hb : Flo.Nm b) (hc : Flo.Nm c) (hd : Flo.Nm d) (he : Flo.Nm e) (hf : Flo.Nm f)
    (hz : 0 < ra (Flo.W c) + ra (Flo.W d)) (h : cQuoBits a b c d = some (e, f)) : divD a b c d = some (e, f) := by
  have hq : qA a b c d = (some e, some f) := by
    unfold cQuoBits at h
    simp only at h
    obtain ⟨⟨e', f'⟩, hef, hfin⟩ := bind_some h
    simp only at hfin
    split at hfin
    · simp only [Option.some.injEq, Prod.mk.injEq] at hfin
      obtain ⟨rfl, rfl⟩ := hfin
      unfold qA
      split at hef
      · rename_i hge
        rw [if_pos hge]
        obtain ⟨r, h1, hef⟩ := bind_some hef
        obtain ⟨rd, h2, hef⟩ := bind_some hef
        obtain ⟨m, h3, hef⟩ := bind_some hef
        obtain ⟨br, h4, hef⟩ := bind_some hef
        obtain ⟨n1, h5, hef⟩ := bind_some hef
        obtain ⟨e', h6, hef⟩ := bind_some hef
        obtain ⟨ar, h7, hef⟩ := bind_some hef
        obtain ⟨n2, h8, hef⟩ := bind_some hef
        obtain ⟨f', h9, hef⟩ := bind_some hef
        simp only [Option.some.injEq, Prod.mk.injEq] at hef
        obtain ⟨rfl, rfl⟩ := hef
        simp only [fA_some, h1, h2, h3, h4, h5, h6, h7, h8, h9]
      · rename_i hge
        rw [if_neg hge]
        obtain ⟨r, h1, hef⟩ := bind_some hef
        obtain ⟨rd, h2, hef⟩ := bind_some hef
        obtain ⟨m, h3, hef⟩ := bind_some hef
        obtain ⟨br, h4, hef⟩ := bind_some hef
        obtain ⟨n1, h5, hef⟩ := bind_some hef
        obtain ⟨e', h6, hef⟩ := bind_some hef
        obtain ⟨ar, h7, hef⟩ := bind_some hef
        obtain ⟨n2, h8, hef⟩ := bind_some hef
        obtain ⟨f', h9, hef⟩ := bind_some hef
        simp only [Option.some.injEq, Prod.mk.injEq] at hef
        obtain ⟨rfl, rfl⟩ := hef
        simp only [fA_some, h1, h2, h3, h4, h5, h6, h7, h8, h9]
    · cases hfin
  have hz2 : ((FloatKind.f64.format.order c 0 == some .eq) && (FloatKind.f64.format.order d 0 == some .eq)) = false := by
    rw [Bool.and_eq_false_iff]
    have oc := (Flo.order_num Ieee.double c 0 hc zero_num.1).2.1
    have od := (Flo.order_num Ieee.double d 0 hd zero_num.1).2.1
    rw [show Flo.V Ieee.double 0 = 0 from zero_num.2] at oc od
    by_cases h0 : Flo.W c = 0
    · right
      have h1 : ¬ Flo.W d = 0 := by intro h1; rw [h0, h1] at hz; unfold ra at hz; grind
      have h2 : ¬ Ieee.double.order d 0 = some .eq := fun g => h1 (od.1 g)
      exact beq_eq_false_iff_ne.2 h2
    · left
      have h2 : ¬ Ieee.double.order c 0 = some .eq := fun g => h0 (oc.1 g)
      exact beq_eq_false_iff_ne.2 h2
  unfold divD
  rw [fin_num ha, fin_num hb, fin_num hc, fin_num hd, hz2, hq]
  simp [fin_num he, fin_num hf]

/-- the quotient of numbers of moderate size: with S the dividend's size, T the size's quotient by the divisor's greater part C -/
theorem quo_moderate (a b c d : Nat) (h1 : Moderate a b) (h2 : Moderate c d) :
    ∃ e f, divD a b c d = some (e, f) ∧ Flo.Nm e ∧ Flo.Nm f ∧ ∃ S T C : Rat, S = Flo.W (labs a) + Flo.W (labs b) ∧ T * C = S ∧ 0 < C ∧ Flo.Ab (Flo.W c) C ∧ Flo.Ab (Flo.W d) C ∧ Flo.Ab (Flo.W a) S ∧ Flo.Ab (Flo.W b) S ∧
      Flo.et ≤ Flo.u * (Flo.u * S) ∧ S ≤ Flo.pw 201 ∧ Flo.Ab (Flo.W e) (9 * T) ∧ Flo.Ab (Flo.W f) (9 * T) ∧
      Flo.Ab (Flo.W e * Flo.W c - Flo.W f * Flo.W d - Flo.W a) (124 * (Flo.u * S)) ∧ Flo.Ab (Flo.W e * Flo.W d + Flo.W f * Flo.W c - Flo.W b) (124 * (Flo.u * S)) := by
  obtain ⟨ax, bx, fa, fb, s1, s2, na', nb'⟩ := h1
  obtain ⟨cx, dx, fc, fd, t1, t2, nc', nd'⟩ := h2
  have na := Nm_of_fin fa
  have nb := Nm_of_fin fb
  have nc := Nm_of_fin fc
  have nd := Nm_of_fin fd
  rw [(labs_num a ax na).2, (labs_num b bx nb).2] at *
  rw [(labs_num c cx nc).2, (labs_num d dx nd).2] at t1 t2
  have a0 := ra_nonneg (Flo.W a)
  have b0 := ra_nonneg (Flo.W b)
  have c0 := ra_nonneg (Flo.W c)
  have d0 := ra_nonneg (Flo.W d)
  have haS : Flo.Ab (Flo.W a) (ra (Flo.W a) + ra (Flo.W b)) := (ra_ab _).mono (by grind)
  have hbS : Flo.Ab (Flo.W b) (ra (Flo.W a) + ra (Flo.W b)) := (ra_ab _).mono (by grind)
  generalize hS : ra (Flo.W a) + ra (Flo.W b) = S at *
  have p201 := Flo.pw_pos (-201)
  have hu : Flo.u = Flo.pw (-53) := rfl
  -- the greater part of the divisor
  have key : ∀ C : Rat, Flo.pw (-202) ≤ C → C ≤ Flo.pw 201 → ∃ T, T * C = S ∧ 0 < C ∧ 4 * C < Flo.pw 1023 ∧ 8 * S < Flo.pw 1022 ∧ 8 * T < Flo.pw 1022 ∧ Flo.et ≤ Flo.u * C ∧ Flo.et ≤ Flo.u * S ∧ Flo.et ≤ Flo.u * T ∧ Flo.et ≤ Flo.u * (Flo.u * S) := by
    intro C g1 g2
    have hC : 0 < C := by have := Flo.pw_pos (-202); grind
    have hT : S / C * C = S := by grind
    have u0 := Flo.u_pos
    have e1 : Flo.pw 203 = 4 * Flo.pw 201 := by rw [show (203 : Int) = 201 + 1 + 1 from rfl, Flo.pw_succ, Flo.pw_succ]; grind
    have e2 : Flo.pw 203 < Flo.pw 1023 := Flo.pw_lt (by omega)
    have e3 : Flo.pw 204 = 2 * Flo.pw 203 := by rw [show (204 : Int) = 203 + 1 from rfl, Flo.pw_succ]
    have e4 : Flo.pw 204 < Flo.pw 1022 := Flo.pw_lt (by omega)
    have e5 : Flo.pw 406 = 8 * Flo.pw 403 := by rw [show (406 : Int) = 403 + 1 + 1 + 1 from rfl, Flo.pw_succ, Flo.pw_succ, Flo.pw_succ]; grind
    have e6 : Flo.pw 406 < Flo.pw 1022 := Flo.pw_lt (by omega)
    have t3 : S / C ≤ Flo.pw 403 := by
      have : S / C * C ≤ Flo.pw 403 * C := by
        rw [hT]
        have k1 := Rat.mul_le_mul_of_nonneg_left g1 (Rat.le_of_lt (Flo.pw_pos 403))
        rw [← Flo.pw_add, show (403 + -202 : Int) = 201 from rfl] at k1
        grind
      exact Rat.le_of_mul_le_mul_right this hC
    have t4 : Flo.pw (-402) ≤ S / C := by
      have : Flo.pw (-402) * C ≤ S / C * C := by
        rw [hT]
        have k1 := Rat.mul_le_mul_of_nonneg_left g2 (Rat.le_of_lt (Flo.pw_pos (-402)))
        rw [← Flo.pw_add, show (-402 + 201 : Int) = -201 from rfl] at k1
        grind
      exact Rat.le_of_mul_le_mul_right this hC
    refine ⟨S / C, hT, hC, by grind, by grind, by grind, ?_, ?_, ?_, ?_⟩
    · have k1 := Rat.mul_le_mul_of_nonneg_left g1 (Rat.le_of_lt u0)
      rw [hu, ← Flo.pw_add] at k1
      have k2 : Flo.pw (-1074) ≤ Flo.pw (-53 + -202) := Flo.pw_le (by omega)
      unfold Flo.et; rw [hu]; grind
    · have k1 := Rat.mul_le_mul_of_nonneg_left s1 (Rat.le_of_lt u0)
      rw [hu, ← Flo.pw_add] at k1
      have k2 : Flo.pw (-1074) ≤ Flo.pw (-53 + -201) := Flo.pw_le (by omega)
      unfold Flo.et; rw [hu]; grind
    · have k1 := Rat.mul_le_mul_of_nonneg_left t4 (Rat.le_of_lt u0)
      rw [hu, ← Flo.pw_add] at k1
      have k2 : Flo.pw (-1074) ≤ Flo.pw (-53 + -402) := Flo.pw_le (by omega)
      unfold Flo.et; rw [hu]; grind
    · have k1 := Rat.mul_le_mul_of_nonneg_left s1 (Rat.le_of_lt u0)
      have k3 := Rat.mul_le_mul_of_nonneg_left k1 (Rat.le_of_lt u0)
      rw [hu, ← Flo.pw_add, ← Flo.pw_add] at k3
      have k2 : Flo.pw (-1074) ≤ Flo.pw (-53 + (-53 + -201)) := Flo.pw_le (by omega)
      unfold Flo.et; rw [hu]; grind
  have e202 : Flo.pw (-201) = 2 * Flo.pw (-202) := by rw [← Flo.pw_succ]; rfl
  cases hge : absGe c d with
  | true =>
    have hle := (absGe_iff c d nc nd).1 hge
    obtain ⟨T, hT, hC, k1, k2, k3, k4, k5, k6, k7⟩ := key (ra (Flo.W c)) (by grind) (by grind)
    obtain ⟨e, f, q1, q2, q3, q4, q5, q6, q7⟩ := Flo.quo_ge a b c d na nb nc nd S T _ (ra_or _) hC k1 ((ra_ab _).mono hle) haS hbS k2 hT k3 k4 k5 k6 hge
    exact ⟨e, f, divD_of_main a b c d e f na nb nc nd q2 q3 (by grind) q1, q2, q3, S, T, _, rfl, hT, hC, ra_ab _, (ra_ab _).mono hle, haS, hbS, k7, s2, q4, q5, q6, q7⟩
  | false =>
    have hlt : ra (Flo.W c) ≤ ra (Flo.W d) := by
      have : ¬ ra (Flo.W d) ≤ ra (Flo.W c) := fun g => by rw [(absGe_iff c d nc nd).2 g] at hge; cases hge
      grind
    obtain ⟨T, hT, hC, k1, k2, k3, k4, k5, k6, k7⟩ := key (ra (Flo.W d)) (by grind) (by grind)
    obtain ⟨e, f, q1, q2, q3, q4, q5, q6, q7⟩ := Flo.quo_lt a b c d na nb nc nd S T _ (ra_or _) hC k1 ((ra_ab _).mono hlt) haS hbS k2 hT k3 k4 k5 k6 hge
    exact ⟨e, f, divD_of_main a b c d e f na nb nc nd q2 q3 (by grind) q1, q2, q3, S, T, _, rfl, hT, hC, (ra_ab _).mono hlt, ra_ab _, haS, hbS, k7, s2, q4, q5, q6, q7⟩

/-- a product of a quotient's parts with the divisor's, each rounded, and their sum: in units of 'u S' -/
theorem part_ok (e c f d : Nat) (he : Flo.Nm e) (hc : Flo.Nm c) (hf : Flo.Nm f) (hd : Flo.Nm d) (S T C : Rat) (hT : T * C = S)
    (hcC : Flo.Ab (Flo.W c) C) (hdC : Flo.Ab (Flo.W d) C) (heT : Flo.Ab (Flo.W e) (9 * T)) (hfT : Flo.Ab (Flo.W f) (9 * T)) (hS : S ≤ Flo.pw 201) (het : Flo.et ≤ Flo.u * (Flo.u * S)) (hS0 : 0 ≤ S) :
    ∃ x y, floatBits .mul .f64 e c = some x ∧ floatBits .mul .f64 f d = some y ∧ Flo.Nm x ∧ Flo.Nm y ∧ Flo.Ab (Flo.W x - Flo.W e * Flo.W c) (10 * (Flo.u * S)) ∧ Flo.Ab (Flo.W y - Flo.W f * Flo.W d) (10 * (Flo.u * S)) ∧
      Flo.Ab (Flo.W x) (10 * S) ∧ Flo.Ab (Flo.W y) (10 * S) := by
  have u0 := Flo.u_pos
  have u1 := Flo.u_le
  have hbig : 32 * Flo.pw 201 < Flo.pw 1023 := by
    have e1 : Flo.pw 206 = 32 * Flo.pw 201 := by rw [show (206 : Int) = 5 + 201 from rfl, Flo.pw_add, show Flo.pw 5 = 32 from Flo.pw_nat 5]
    have e2 : Flo.pw 206 < Flo.pw 1023 := Flo.pw_lt (by omega)
    grind
  have huS : Flo.u * S ≤ S / 1048576 := by
    have := Rat.mul_le_mul_of_nonneg_right u1 hS0; grind
  have huS0 := Rat.mul_nonneg (Rat.le_of_lt u0) hS0
  have huuS : Flo.u * (Flo.u * S) ≤ (Flo.u * S) / 1048576 := by
    have := Rat.mul_le_mul_of_nonneg_right u1 huS0; grind
  have m1 : Flo.Ab (Flo.W e * Flo.W c) (9 * S) := (heT.mul hcC).mono (by rw [← hT]; grind)
  have m2 : Flo.Ab (Flo.W f * Flo.W d) (9 * S) := (hfT.mul hdC).mono (by rw [← hT]; grind)
  obtain ⟨x, x1, x2, x3⟩ := Flo.d_mul e c he hc (9 * S) m1 (by grind)
  obtain ⟨y, y1, y2, y3⟩ := Flo.d_mul f d hf hd (9 * S) m2 (by grind)
  have x3' : Flo.Ab (Flo.W x - Flo.W e * Flo.W c) (10 * (Flo.u * S)) := x3.mono (by grind)
  have y3' : Flo.Ab (Flo.W y - Flo.W f * Flo.W d) (10 * (Flo.u * S)) := y3.mono (by grind)
  exact ⟨x, y, x1, y1, x2, y2, x3', y3', ((x3'.add m1).eq (by grind)).mono (by grind), ((y3'.add m2).eq (by grind)).mono (by grind)⟩

/-- what is left of a part, measured: in units of 'u S' -/
theorem rest_ok (p a : Nat) (hp : Flo.Nm p) (ha : Flo.Nm a) (hp64 : p < 2 ^ 64) (S : Rat) (k : Rat) (hk0 : 0 ≤ k) (hk : k ≤ 1000) (h : Flo.Ab (Flo.W p - Flo.W a) (k * (Flo.u * S))) (hS : S ≤ Flo.pw 201) (het : Flo.et ≤ Flo.u * (Flo.u * S)) (hS0 : 0 ≤ S) :
    ∃ d, floatBits .sub .f64 p a = some d ∧ d < 2 ^ 64 ∧ Flo.Nm d ∧ Flo.Nm (labs d) ∧ 0 ≤ Flo.W (labs d) ∧ Flo.W (labs d) ≤ (k + 1) * (Flo.u * S) := by
  have u0 := Flo.u_pos
  have u1 := Flo.u_le
  have huS0 := Rat.mul_nonneg (Rat.le_of_lt u0) hS0
  have huS : Flo.u * S ≤ S / 1048576 := by
    have := Rat.mul_le_mul_of_nonneg_right u1 hS0; grind
  have huuS : Flo.u * (Flo.u * S) ≤ (Flo.u * S) / 1048576 := by
    have := Rat.mul_le_mul_of_nonneg_right u1 huS0; grind
  have huuS0 := Rat.mul_nonneg (Rat.le_of_lt u0) huS0
  have hk1 := Rat.mul_le_mul_of_nonneg_right hk huS0
  have hk2 := Rat.mul_le_mul_of_nonneg_right hk huuS0
  have hbig : Flo.pw 201 < Flo.pw 1023 := Flo.pw_lt (by omega)
  obtain ⟨d, d1, d2, d3⟩ := Flo.d_sub p a hp ha _ h (by grind)
  have hd64 : d < 2 ^ 64 := by have := floatBits_wf d1; simpa [Lit.wf] using this
  have l := labs_num d hd64 d2
  have hb : Flo.Ab (Flo.W d) ((k + 1) * (Flo.u * S)) := ((d3.add h).eq (show Flo.W d - (Flo.W p - Flo.W a) + (Flo.W p - Flo.W a) = Flo.W d by grind)).mono (by grind)
  exact ⟨d, d1, hd64, d2, l.1, by rw [l.2]; exact ra_nonneg _, by rw [l.2]; exact ra_le hb⟩

/-- what is left of the dividend, measured: at most 340 units of 'u S' -/
theorem diff_ok (a b c d e f p q : Nat) (h1 : Moderate a b) (h2 : Moderate c d) (hdiv : divD a b c d = some (e, f))
    (hp : fab .f64 p = mulRe (fab .f64 e) (fab .f64 f) (fab .f64 c) (fab .f64 d)) (hq : fab .f64 q = mulIm (fab .f64 e) (fab .f64 f) (fab .f64 c) (fab .f64 d)) (hp64 : p < 2 ^ 64) (hq64 : q < 2 ^ 64) :
    ∃ d1 d2 s, floatBits .sub .f64 p a = some d1 ∧ floatBits .sub .f64 q b = some d2 ∧ floatBits .add .f64 (labs d1) (labs d2) = some s ∧ Flo.Nm s ∧ Flo.W s ≤ 340 * (Flo.u * (Flo.W (labs a) + Flo.W (labs b))) := by
  obtain ⟨e', f', hdiv', ne, nf, S, T, C, hS, hT, hC, hcC, hdC, haS, hbS, het, hS201, heT, hfT, g1, g2⟩ := quo_moderate a b c d h1 h2
  rw [hdiv] at hdiv'
  simp only [Option.some.injEq, Prod.mk.injEq] at hdiv'
  obtain ⟨rfl, rfl⟩ := hdiv'
  obtain ⟨ax, bx, fa, fb, s1, s2, nla, nlb⟩ := h1
  obtain ⟨cx, dx, fc, fd, -, -, -, -⟩ := h2
  have na := Nm_of_fin fa
  have nb := Nm_of_fin fb
  have nc := Nm_of_fin fc
  have nd := Nm_of_fin fd
  have u0 := Flo.u_pos
  have u1 := Flo.u_le
  have hS0 : 0 ≤ S := haS.nonneg
  have huS0 := Rat.mul_nonneg (Rat.le_of_lt u0) hS0
  have huS : Flo.u * S ≤ S / 1048576 := by
    have := Rat.mul_le_mul_of_nonneg_right u1 hS0; grind
  have huuS : Flo.u * (Flo.u * S) ≤ (Flo.u * S) / 1048576 := by
    have := Rat.mul_le_mul_of_nonneg_right u1 huS0; grind
  have hbig : 32 * Flo.pw 201 < Flo.pw 1023 := by
    have e1 : Flo.pw 206 = 32 * Flo.pw 201 := by rw [show (206 : Int) = 5 + 201 from rfl, Flo.pw_add, show Flo.pw 5 = 32 from Flo.pw_nat 5]
    have e2 : Flo.pw 206 < Flo.pw 1023 := Flo.pw_lt (by omega)
    grind
  have et0 := Flo.et_pos
  -- the two parts of the product
  obtain ⟨x, y, x1, y1, x2, y2, x3, y3, x4, y4⟩ := part_ok e c f d ne nc nf nd S T C hT hcC hdC heT hfT hS201 het hS0
  obtain ⟨v, z, v1, z1, v2, z2, v3, z3, v4, z4⟩ := part_ok e d f c ne nd nf nc S T C hT hdC hcC heT hfT hS201 het hS0
  obtain ⟨p', p1, p2, p3⟩ := Flo.d_sub x y x2 y2 (20 * S) ((x4.sub y4).mono (by grind)) (by grind)
  obtain ⟨q', q1, q2, q3⟩ := Flo.d_add v z v2 z2 (20 * S) ((v4.add z4).mono (by grind)) (by grind)
  have ep : p = p' := by
    rw [fab_num ne, fab_num nf, fab_num nc, fab_num nd] at hp
    unfold mulRe at hp
    rw [fA_some, fA_some, x1, y1, fA_some, p1, ← fab_num p2] at hp
    rw [fab_num p2] at hp
    unfold fab at hp
    split at hp
    · cases hp
    · simpa using hp
  have eq : q = q' := by
    rw [fab_num ne, fab_num nf, fab_num nc, fab_num nd] at hq
    unfold mulIm at hq
    rw [fA_some, fA_some, v1, z1, fA_some, q1, ← fab_num q2] at hq
    rw [fab_num q2] at hq
    unfold fab at hq
    split at hq
    · cases hq
    · simpa using hq
  subst ep eq
  have P : Flo.Ab (Flo.W p - Flo.W a) (166 * (Flo.u * S)) := (((p3.add (x3.sub y3)).add g1).eq (by grind)).mono (by grind)
  have Q : Flo.Ab (Flo.W q - Flo.W b) (166 * (Flo.u * S)) := (((q3.add (v3.add z3)).add g2).eq (by grind)).mono (by grind)
  obtain ⟨d1, i1, i2, i3, i4, i5, i6⟩ := rest_ok p a p2 na hp64 S 166 (by grind) (by grind) P hS201 het hS0
  obtain ⟨d2, j1, j2, j3, j4, j5, j6⟩ := rest_ok q b q2 nb hq64 S 166 (by grind) (by grind) Q hS201 het hS0
  obtain ⟨s, r1, r2, r3⟩ := Flo.d_add (labs d1) (labs d2) i4 j4 (334 * (Flo.u * S)) ⟨by grind, by grind⟩ (by grind)
  refine ⟨d1, d2, s, i1, j1, r1, r2, ?_⟩
  rw [← hS]
  unfold Flo.Ab at r3
  grind

/-- THE LAW's TEST OF THE QUOTIENT. -/
theorem small_ok (a b c d e f p q k : Nat) (w1 w2 w3 w4 : World) (h1 : Moderate a b) (h2 : Moderate c d) (hdiv : divD a b c d = some (e, f))
    (hp : fab .f64 p = mulRe (fab .f64 e) (fab .f64 f) (fab .f64 c) (fab .f64 d)) (hq : fab .f64 q = mulIm (fab .f64 e) (fab .f64 f) (fab .f64 c) (fab .f64 d)) (hp64 : p < 2 ^ 64) (hq64 : q < 2 ^ 64)
    (hk : Flo.Nm k) (hk44 : Flo.W k = Flo.pw (-((44 : Nat) : Int))) :
    (FloatKind.f64.format.order (fres w3 .add .f64 (labs (fres w1 .sub .f64 p a)) (labs (fres w2 .sub .f64 q b))) (fres w4 .mul .f64 (szd a b) k) == some .lt ||
      FloatKind.f64.format.order (fres w3 .add .f64 (labs (fres w1 .sub .f64 p a)) (labs (fres w2 .sub .f64 q b))) (fres w4 .mul .f64 (szd a b) k) == some .eq) = true := by
  obtain ⟨d1, d2, s, i1, j1, r1, r2, hhigh⟩ := diff_ok a b c d e f p q h1 h2 hdiv hp hq hp64 hq64
  obtain ⟨ax, bx, fa, fb, s1, s2, nla, nlb⟩ := h1
  have na := Nm_of_fin fa
  have nb := Nm_of_fin fb
  have u0 := Flo.u_pos
  have u1 := Flo.u_le
  have p201 := Flo.pw_pos (-201)
  generalize hS : Flo.W (labs a) + Flo.W (labs b) = S at *
  have hS0 : 0 ≤ S := by grind
  have huS0 := Rat.mul_nonneg (Rat.le_of_lt u0) hS0
  have huS : Flo.u * S ≤ S / 1048576 := by
    have := Rat.mul_le_mul_of_nonneg_right u1 hS0; grind
  have huuS : Flo.u * (Flo.u * S) ≤ (Flo.u * S) / 1048576 := by
    have := Rat.mul_le_mul_of_nonneg_right u1 huS0; grind
  have het : Flo.et ≤ Flo.u * (Flo.u * S) := by
    have k1 := Rat.mul_le_mul_of_nonneg_left s1 (Rat.le_of_lt u0)
    have k3 := Rat.mul_le_mul_of_nonneg_left k1 (Rat.le_of_lt u0)
    rw [show Flo.u = Flo.pw (-53) from rfl, ← Flo.pw_add, ← Flo.pw_add] at k3
    have k2 : Flo.pw (-1074) ≤ Flo.pw (-53 + (-53 + -201)) := Flo.pw_le (by omega)
    unfold Flo.et; rw [show Flo.u = Flo.pw (-53) from rfl]; grind
  have hbig : 32 * Flo.pw 201 < Flo.pw 1023 := by
    have e1 : Flo.pw 206 = 32 * Flo.pw 201 := by rw [show (206 : Int) = 5 + 201 from rfl, Flo.pw_add, show Flo.pw 5 = 32 from Flo.pw_nat 5]
    have e2 : Flo.pw 206 < Flo.pw 1023 := Flo.pw_lt (by omega)
    grind
  have et0 := Flo.et_pos
  -- the bound
  have hsz := szd_eq a b ax bx na nb
  obtain ⟨sz, o1, o2, o3⟩ := Flo.d_add (labs a) (labs b) nla nlb S ⟨by rw [hS]; grind, by rw [hS]; exact Rat.le_refl⟩ (by grind)
  rw [hsz] at o1
  simp only [Option.some.injEq] at o1
  rw [o1] at *
  rw [hS] at o3
  have e44 : Flo.W k = 512 * Flo.u := by
    rw [hk44, show (-((44 : Nat) : Int)) = 9 + -53 from rfl, Flo.pw_add, show Flo.pw 9 = 512 from Flo.pw_nat 9]; rfl
  have hkA : Flo.Ab (Flo.W k) (512 * Flo.u) := by rw [e44]; unfold Flo.Ab; grind
  have hszA : Flo.Ab (Flo.W sz) (2 * S) := ((o3.add (show Flo.Ab S S from ⟨by grind, by grind⟩)).eq (show Flo.W sz - S + S = Flo.W sz by grind)).mono (by grind)
  obtain ⟨k', t1, t2, t3⟩ := Flo.d_mul sz k o2 hk (2 * S * (512 * Flo.u)) (hszA.mul hkA) (by grind)
  have hlow : 500 * (Flo.u * S) ≤ Flo.W k' := by
    rw [e44] at t3
    have m1 : S - 2 * (Flo.u * S) ≤ Flo.W sz := by unfold Flo.Ab at o3; grind
    have m2 := Rat.mul_le_mul_of_nonneg_right m1 (show (0 : Rat) ≤ 512 * Flo.u by grind)
    unfold Flo.Ab at t3
    grind
  have fr1 : fres w1 .sub .f64 p a = d1 := by unfold fres; rw [i1]
  have fr2 : fres w2 .sub .f64 q b = d2 := by unfold fres; rw [j1]
  have fr3 : fres w3 .add .f64 (labs d1) (labs d2) = s := by unfold fres; rw [r1]
  have fr4 : fres w4 .mul .f64 sz k = k' := by unfold fres; rw [t1]
  rw [fr1, fr2, fr3, fr4, show FloatKind.f64.format = Ieee.double from rfl, Bool.or_eq_true, beq_iff_eq, beq_iff_eq]
  have o := Flo.order_num Ieee.double s k' r2 t2
  rw [o.1, o.2.1]
  show Flo.W s < Flo.W k' ∨ Flo.W s = Flo.W k'
  have : Flo.W s ≤ Flo.W k' := by grind
  grind

end Go.Proofs.YtiakcibeobbonaaGreat

/- The walks of MakeMode, and of the program's IsMode, BeatOf and BeatPeriod on valid modes.
   Conditions: those that each statement names. -/
namespace Go.Proofs.YtiakcibeobbonaaGreat
set_option linter.unusedSimpArgs false
set_option linter.unusedVariables false
open Go Go.RowKit

theorem Kp.nw {c : Nat} {w w' : World} (h : Kp c w w') (hc : w.heap.size ≤ c) : Nw w w' :=
  ⟨h.os, h.tape, h.output, h.size, fun k hk _ => h.block k hk (fun e => by cases e; omega)⟩

def Valid (pr pi gr gi : Nat) : Prop := modeB pr pi gr gi labs = true
theorem valid_const : Valid 1056964608 1048576000 1065353216 0 := by unfold Valid; decide +kernel

theorem quiet_eq {P : Program} {f : FuncId} {args : Array Value} {w : World} {n : Nat} {v : Value}
    (h : Calls P f args (w.drewN n) fun e w' => e = .returned v ∧ w.drewN n = w') : Calls P f args (w.drewN n) fun e w'' => e = .returned v ∧ ∃ m, w'' = w.drewN m :=
  h.mono fun _ _ ⟨he, hm⟩ => ⟨he, n, hm.symm⟩

/-! ### the program's own functions on valid modes -/
/-- what is known of a valid mode, in numbers -/
theorem Valid.parts {pr pi gr gi : Nat} (h : Valid pr pi gr gi) :
    fin .f32 pr = true ∧ fin .f32 pi = true ∧ fin .f32 gr = true ∧ fin .f32 gi = true ∧ leB (sqr (wid pr) (wid pi)) 4607182418800017408 = true ∧ leB (labs (wid gr)) 4652218415073722368 = true ∧ leB (labs (wid gi)) 4652218415073722368 = true := by
  unfold Valid modeB at h
  simp only [Bool.and_eq_true] at h
  exact ⟨h.1.1.1.1, h.1.1.1.2, h.1.1.2.1, h.1.1.2.2, h.1.2, h.2.1, h.2.2⟩

/-- the two absolute values are the same number, so the tests agree -/
theorem leB_abs {x k : Nat} (hx : x < 2 ^ 64) (h : Flo.Nm x) (hk : Flo.Nm k) : leB (x % signBit) k = leB (labs x) k := by
  have l := labs_num x hx h
  have r := abs_num x h
  rw [show Op.Complex.abs x = x % signBit from rfl] at r
  have i1 := leB_iff r.1 hk
  have i2 := leB_iff l.1 hk
  rw [r.2] at i1
  rw [l.2] at i2
  cases h1 : leB (x % signBit) k <;> cases h2 : leB (labs x) k <;> simp_all

theorem num_1024 : Flo.Nm 4652218415073722368 := ⟨false, 4503599627370496, -42, by decide⟩

theorem implWiden_fin (x y : Nat) (w : World) (hx : Sm x) (hy : Sm y) :
    Calls Tryz.prog 115 #[.complex .f32 x y] w fun e w' => e = .returned (.complex .f64 (wid x) (wid y)) ∧ w = w' := by
  have a1 := fcv_up hx
  have a2 := fcv_up hy
  have b1 := fcd_up hx
  have b2 := fcd_up hy
  go_enter Tryz.func115, Tryz.ntmps115
  go_wp2
  go_ret
  exact ⟨rfl, rfl⟩

theorem fin_wid {b : Nat} (h : Sm b) : fin .f64 (wid b) = true := (fin_iff' .f64 _).2 (wid_num h).1

theorem isModeOf_valid (pr pi gr gi : Nat) (w : World) (h : Valid pr pi gr gi) :
    Calls Tryz.prog 114 #[.complex .f64 (wid pr) (wid pi), .complex .f64 (wid gr) (wid gi)] w fun e w' => e = .returned (.bool true) ∧ w = w' := by
  obtain ⟨h1, h2, h3, h4, h5, h6, h7⟩ := h.parts
  have S1 := Sm_of h1
  have S2 := Sm_of h2
  have S3 := Sm_of h3
  have S4 := Sm_of h4
  obtain ⟨a, b, m1, m2, m3, -, -⟩ := sqr_num S1 S2
  have f1 : ∀ w, fres w .mul .f64 (wid pr) (wid pr) = a := fun w => by unfold fres; rw [m1]
  have f2 : ∀ w, fres w .mul .f64 (wid pi) (wid pi) = b := fun w => by unfold fres; rw [m2]
  have f3 : ∀ w, fres w .add .f64 a b = sqr (wid pr) (wid pi) := fun w => by unfold fres; rw [m3]
  have d1 : fdr .mul .f64 (wid pr) (wid pr) = 0 := by unfold fdr; rw [m1]; rfl
  have d2 : fdr .mul .f64 (wid pi) (wid pi) = 0 := by unfold fdr; rw [m2]; rfl
  have d3 : fdr .add .f64 a b = 0 := by unfold fdr; rw [m3]; rfl
  rw [← leB_abs (wid_lt _) (wid_num S3).1 num_1024] at h6
  rw [← leB_abs (wid_lt _) (wid_num S4).1 num_1024] at h7
  have W1 := fin_wid S1
  have W2 := fin_wid S2
  have W3 := fin_wid S3
  have W4 := fin_wid S4
  unfold leB at h5 h6 h7
  clear m1 m2 m3 h S1 S2 S3 S4
  go_enter Tryz.func114, Tryz.ntmps114
  go_wp2_with (first
    | (go_at_call 120; refine (implFinite_any _ _ _ (wid_lt _) (wid_lt _)).mono ?_; rintro e w' ⟨rfl, rfl⟩)
    | (go_at_call 96; refine (abs_any _ _ (wid_lt _)).mono ?_; rintro e w' ⟨rfl, rfl⟩))
  all_goals (go_ret; exact ⟨by simp [h5, h6, h7], rfl⟩)

theorem implIsMode_valid (pr pi gr gi : Nat) (w : World) (h : Valid pr pi gr gi) :
    Calls Tryz.prog 104 #[.agg #[.complex .f32 pr pi, .complex .f32 gr gi]] w (TestP true w) := by
  have H := Lib.hid h
  obtain ⟨h1, h2, h3, h4, -, -, -⟩ := h.parts
  have S1 := Lib.hid (Sm_of h1)
  have S2 := Lib.hid (Sm_of h2)
  have S3 := Lib.hid (Sm_of h3)
  have S4 := Lib.hid (Sm_of h4)
  clear h h1 h2 h3 h4
  go_enter Tryz.func104, Tryz.ntmps104
  go_wp2_with fail
  go_quiet (first
    | (go_at_call 115; exact quiet_eq (implWiden_fin _ _ _ S1.out S2.out))
    | (go_at_call 115; exact quiet_eq (implWiden_fin _ _ _ S3.out S4.out))
    | (go_at_call 114; exact quiet_eq (isModeOf_valid _ _ _ _ _ H.out)))
  go_wp2
  go_ret
  exact ⟨rfl, ((Nw.refl _).alloc _).draw _⟩

/-- the poles of valid modes, widened, are of moderate size if their size is at least a small one -/
theorem square_nonneg (q : Rat) : 0 ≤ q * q := by
  rcases Rat.le_total (a := 0) (b := q) with h | h
  · exact Rat.mul_nonneg h h
  · have := Rat.mul_nonneg (show 0 ≤ -q by grind) (show 0 ≤ -q by grind); grind

theorem num_one : Flo.Nm 4607182418800017408 ∧ Flo.W 4607182418800017408 = 1 := by
  refine ⟨one_num.1, ?_⟩
  rw [one_num.2]; exact Flo.pw_zero

/-- a valid pole's square is at most 1, but for rounding -/
theorem Valid.square {pr pi gr gi : Nat} (h : Valid pr pi gr gi) : S pr * S pr + S pi * S pi ≤ 1 + 1 / 100000 := by
  obtain ⟨h1, h2, -, -, h5, -, -⟩ := h.parts
  obtain ⟨a, b, -, -, -, n, e⟩ := sqr_num (Sm_of h1) (Sm_of h2)
  have l := (leB_iff n num_one.1).1 h5
  rw [num_one.2] at l
  have q1 := square_nonneg (S pr)
  have q2 := square_nonneg (S pi)
  have hQ : 0 ≤ S pr * S pr + S pi * S pi := by grind
  generalize S pr * S pr + S pi * S pi = Q at *
  have u1 := Flo.u_le
  have eu : Flo.et ≤ Flo.u := Flo.pw_le (by omega)
  have := Rat.mul_le_mul_of_nonneg_left u1 hQ
  unfold Flo.Ab at e
  grind

theorem ra_sq (q : Rat) : ra q * ra q = q * q := by unfold ra; split <;> grind

/-- .. and the size of such a pole at most 3/2 -/
theorem Valid.size {pr pi gr gi : Nat} (h : Valid pr pi gr gi) : Flo.W (labs (wid pr)) + Flo.W (labs (wid pi)) ≤ 3 / 2 := by
  obtain ⟨h1, h2, -, -, -, -, -⟩ := h.parts
  obtain ⟨n1, v1⟩ := wid_num (Sm_of h1)
  obtain ⟨n2, v2⟩ := wid_num (Sm_of h2)
  rw [(labs_num _ (wid_lt _) n1).2, (labs_num _ (wid_lt _) n2).2, v1, v2]
  have hs := h.square
  rw [← ra_sq (S pr), ← ra_sq (S pi)] at hs
  have a0 := ra_nonneg (S pr)
  have b0 := ra_nonneg (S pi)
  generalize ra (S pr) = A at *
  generalize ra (S pi) = B at *
  have h3 := square_nonneg (A - B)
  rcases Rat.le_total (a := A + B) (b := 3 / 2) with g | g
  · exact g
  · have g2 := Rat.mul_le_mul_of_nonneg_left g (show 0 ≤ A + B by grind)
    have g3 := Rat.mul_le_mul_of_nonneg_right g (show (0 : Rat) ≤ 3 / 2 by grind)
    grind

theorem Valid.moderate {pr pi gr gi k : Nat} (h : Valid pr pi gr gi) (hk : Flo.Nm k) (vk : Flo.W k = Flo.pw (-((20 : Nat) : Int)))
    (ht : (FloatKind.f64.format.order (szd (wid pr) (wid pi)) k == some .lt) = false) : Moderate (wid pr) (wid pi) := by
  have hsz := h.size
  obtain ⟨h1, h2, -, -, -, -, -⟩ := h.parts
  obtain ⟨n1, v1⟩ := wid_num (Sm_of h1)
  obtain ⟨n2, v2⟩ := wid_num (Sm_of h2)
  obtain ⟨l1, l1v⟩ := labs_num _ (wid_lt pr) n1
  obtain ⟨l2, l2v⟩ := labs_num _ (wid_lt pi) n2
  have a0 : 0 ≤ Flo.W (labs (wid pr)) := by rw [l1v]; exact ra_nonneg _
  have b0 : 0 ≤ Flo.W (labs (wid pi)) := by rw [l2v]; exact ra_nonneg _
  have e2 : Flo.pw 2 = 4 := Flo.pw_nat 2
  have l1023 : Flo.pw 2 < Flo.pw 1023 := Flo.pw_lt (by omega)
  obtain ⟨r, r1, r2, r3⟩ := Flo.d_add _ _ l1 l2 (3 / 2) ⟨by grind, hsz⟩ (by grind)
  have hr : szd (wid pr) (wid pi) = r := by unfold szd; rw [r1]; rfl
  rw [hr, show FloatKind.f64.format = Ieee.double from rfl] at ht
  have o := (Flo.order_num Ieee.double r k r2 hk).1
  have g : ¬ Flo.W r < Flo.W k := fun g => by rw [o.2 g] at ht; exact absurd ht (by decide)
  rw [vk] at g
  have u1 : Flo.u ≤ Flo.pw (-25) := Flo.pw_le (by omega)
  have e1 : Flo.et ≤ Flo.pw (-25) := Flo.pw_le (by omega)
  have p25 : Flo.pw (-((20 : Nat) : Int)) = 32 * Flo.pw (-25) := by rw [show (-((20 : Nat) : Int)) = 5 + -25 from rfl, Flo.pw_add, show Flo.pw 5 = 32 from Flo.pw_nat 5]
  have q1 : Flo.pw (-201) ≤ Flo.pw (-25) := Flo.pw_le (by omega)
  have q2 : Flo.pw 2 ≤ Flo.pw 201 := Flo.pw_le (by omega)
  have q3 := Flo.pw_pos (-25)
  unfold Flo.Ab at r3
  exact ⟨wid_lt _, wid_lt _, fin_wid (Sm_of h1), fin_wid (Sm_of h2), by grind, by grind, l1, l2⟩

theorem num_16 : Flo.Nm 4589168020290535424 ∧ Flo.W 4589168020290535424 = 1 / 16 := by
  have h : Ieee.double.read 4589168020290535424 = .number false 4503599627370496 (-56) := by decide
  refine ⟨⟨_, _, _, h⟩, ?_⟩
  rw [show Flo.W 4589168020290535424 = _ from Flo.V_eq h]
  unfold Flo.val
  have := Flo.pw_neg_mul 56
  have e : Flo.pw 56 = 72057594037927936 := Flo.pw_nat 56
  rw [e] at this
  simp only [Bool.false_eq_true, if_false]
  have e2 : ((4503599627370496 : Nat) : Rat) = 4503599627370496 := rfl
  rw [e2]; grind

/-- A NUMBER's QUOTIENT BY ITSELF IS NEAR 1. -/
theorem one_ok (c d : Nat) (h : Moderate c d) : ∃ e f d1 d2 s, divD c d c d = some (e, f) ∧ floatBits .sub .f64 e 4607182418800017408 = some d1 ∧ floatBits .sub .f64 f 0 = some d2 ∧ d1 < 2 ^ 64 ∧ d2 < 2 ^ 64 ∧
    floatBits .add .f64 (d1 % signBit) (d2 % signBit) = some s ∧ leB s 4589168020290535424 = true := by
  obtain ⟨e, f, hdiv, ne, nf, S, T, C, hS, hT, hC, hcC, hdC, haS, hbS, het, hS201, heT, hfT, g1, g2⟩ := quo_moderate c d c d h h
  obtain ⟨cx, dx, fc, fd, s1, s2, nlc, nld⟩ := h
  have nc := Nm_of_fin fc
  have nd := Nm_of_fin fd
  have lc := (labs_num c cx nc).2
  have ld := (labs_num d dx nd).2
  rw [lc, ld] at hS s1
  rw [← hS] at s1
  have hSp : 0 < S := by have := Flo.pw_pos (-201); grind
  have u0 := Flo.u_pos
  have u1 := Flo.u_le
  have hD : S * S / 2 ≤ Flo.W c * Flo.W c + Flo.W d * Flo.W d := by
    rw [← ra_sq (Flo.W c), ← ra_sq (Flo.W d), hS]
    have := square_nonneg (ra (Flo.W c) - ra (Flo.W d))
    grind
  have hSS : 0 < S * S / 2 := by
    have := Rat.mul_pos hSp hSp
    grind
  have x1 : Flo.Ab ((Flo.W e - 1) * (Flo.W c * Flo.W c + Flo.W d * Flo.W d)) (496 * Flo.u * (S * S / 2)) := by
    have := (haS.mul g1).add (hbS.mul g2)
    refine (this.eq ?_).mono ?_
    · clear this; grind
    · clear this g1 g2; grind
  have y1 : Flo.Ab (Flo.W f * (Flo.W c * Flo.W c + Flo.W d * Flo.W d)) (496 * Flo.u * (S * S / 2)) := by
    have := (haS.mul g2).sub (hbS.mul g1)
    refine (this.eq ?_).mono ?_
    · clear this; grind
    · clear this g1 g2; grind
  have x2 := x1.div hSS hD
  have y2 := y1.div hSS hD
  have b1023 : (1 : Rat) < Flo.pw 1023 := by have := Flo.pw_lt (a := 0) (b := 1023) (by omega); rwa [Flo.pw_zero] at this
  have et0 := Flo.et_pos
  have etu : Flo.et ≤ Flo.u := Flo.pw_le (by omega)
  have uu : Flo.u * Flo.u ≤ Flo.u / 1048576 := by have := Rat.mul_le_mul_of_nonneg_left u1 (Rat.le_of_lt u0); grind
  obtain ⟨d1, p1, p2, p3⟩ := Flo.d_sub e 4607182418800017408 ne num_one.1 (496 * Flo.u) (by rw [num_one.2]; exact x2) (by grind)
  obtain ⟨d2, q1, q2, q3⟩ := Flo.d_sub f 0 nf zero_num.1 (496 * Flo.u) (by rw [zero_num.2]; exact y2.eq (by grind)) (by grind)
  rw [num_one.2] at p3
  rw [zero_num.2] at q3
  have p4 : Flo.Ab (Flo.W d1) (500 * Flo.u) := ((p3.add x2).eq (by grind)).mono (by grind)
  have q4 : Flo.Ab (Flo.W d2) (500 * Flo.u) := ((q3.add y2).eq (by grind)).mono (by grind)
  obtain ⟨a1, a1v⟩ := abs_num d1 p2
  obtain ⟨a2, a2v⟩ := abs_num d2 q2
  rw [show Op.Complex.abs d1 = d1 % signBit from rfl] at a1 a1v
  rw [show Op.Complex.abs d2 = d2 % signBit from rfl] at a2 a2v
  have r1 := ra_le p4
  have r2 := ra_le q4
  have r3 := ra_nonneg (Flo.W d1)
  have r4 := ra_nonneg (Flo.W d2)
  rw [← a1v] at r1 r3
  rw [← a2v] at r2 r4
  obtain ⟨s, t1, t2, t3⟩ := Flo.d_add _ _ a1 a2 (1000 * Flo.u) ⟨by grind, by grind⟩ (by grind)
  refine ⟨e, f, d1, d2, s, hdiv, p1, q1, ?_, ?_, t1, (leB_iff t2 num_16.1).2 ?_⟩
  · have := floatBits_wf p1; simpa [Lit.wf] using this
  · have := floatBits_wf q1; simpa [Lit.wf] using this
  · rw [num_16.2]
    unfold Flo.Ab at t3
    grind

/-! ### beats -/
def TupP (v : Value) (w : World) (e : Ending) (w' : World) : Prop := e = .returned v ∧ Nw w w'

end Go.Proofs.YtiakcibeobbonaaGreat

/- The walk of what draws bodies: the result's modes are valid, and lie in memory of its own.
   Conditions: those that each statement names. -/
namespace Go.Proofs.YtiakcibeobbonaaGreat
set_option linter.unusedSimpArgs false
set_option linter.unusedVariables false
open Go Go.RowKit

structure M4 where
  pr : Nat
  pi : Nat
  gr : Nat
  gi : Nat
def M4.ok (m : M4) : Prop := Valid m.pr m.pi m.gr m.gi
def M4.cells (m : M4) : List Value := [.complex .f32 m.pr m.pi, .complex .f32 m.gr m.gi]
def cellsM (ms : List M4) : List Value := ms.flatMap M4.cells
theorem cellsM_len (ms : List M4) : (cellsM ms).length = ms.length * 2 := by
  induction ms with
  | nil => rfl
  | cons m ms ih => simp only [cellsM, List.flatMap_cons, List.length_append, List.length_cons] at *; simp [M4.cells] at *; omega
theorem cellsM_snoc (ms : List M4) (m : M4) : cellsM (ms ++ [m]) = cellsM ms ++ m.cells := by simp [cellsM]
theorem cellsM_at (ms : List M4) (k : Nat) (m : M4) (h : ms[k]? = some m) : (cellsM ms)[2 * k]? = some (.complex .f32 m.pr m.pi) ∧ (cellsM ms)[2 * k + 1]? = some (.complex .f32 m.gr m.gi) := by
  induction ms generalizing k with
  | nil => simp at h
  | cons a ms ih =>
    cases k with
    | zero => simp at h; subst h; simp [cellsM, M4.cells]
    | succ k =>
      have := ih k (by simpa using h)
      rw [show 2 * (k + 1) = 2 * k + 2 from by omega, show 2 * k + 2 + 1 = 2 * k + 1 + 2 from by omega]
      simpa [cellsM, M4.cells] using this

theorem At.grown {B : Nat} {w0 : World} {a : Option Addr} {len cap c base : Nat} {w w1 : World} {row : Option Nat} (h : At B w0 a len cap c w) (hg : w.grownBy w1 row) (hr : ∀ k, row = some k → base ≤ k) (hc : c < base) (hB : B ≤ base) (hw : w0.heap.size ≤ base) : At B w0 a len cap c w1 := by
  obtain ⟨⟨h1, h2, h3, i, j, h4, h5, h6, h7, h8, h9, h10⟩, hk⟩ := h
  have hb : w1.heap[c]? = w.heap[c]? := hg.block c h2 (fun e => by have := hr c e.symm; omega)
  have k : ∀ q : Addr, q.block = c → w1.cell? q = w.cell? q := fun q hq => World.cell?_of_block (w := w) (by rw [hq]; exact hb)
  have f : ∀ q : Addr, q.block = c → w1.frozen? q = w.frozen? q := fun q hq => World.frozen?_of_block (w := w) (by rw [hq]; exact hb)
  have hs := hg.size
  exact ⟨⟨h1, by omega, h3.below ⟨hg.os, hg.tape, hg.output, hg.size, fun q hq => hg.block q (by omega) (fun e => by have := hr q e.symm; omega)⟩, i, j, h4, by rw [k _ rfl]; exact h5, by rw [k _ rfl]; exact h6, by rw [k _ rfl]; exact h7, by rw [f _ rfl]; exact h8, by rw [f _ rfl]; exact h9, by rw [f _ rfl]; exact h10⟩,
    hg.os.trans hk.os, hg.tape.trans hk.tape, hg.output.trans hk.output, by have := hk.size; omega, fun q hq hne => (hg.block q (by have := hk.size; omega) (fun e => by have := hr q e.symm; omega)).trans (hk.block q hq hne)⟩

/-- block b holds one cell -/
def Has1 (w : World) (b : Nat) (v : Value) : Prop := b < w.heap.size ∧ w.cell? ⟨b, 0, none⟩ = some v ∧ w.frozen? ⟨b, 0, none⟩ = false
theorem Has1.of {w w' : World} {b : Nat} {v : Value} (h : Has1 w b v) (hs : w.heap.size ≤ w'.heap.size) (hb : w'.heap[b]? = w.heap[b]?) : Has1 w' b v := by
  obtain ⟨h0, h1, h3⟩ := h
  have k : ∀ p : Addr, p.block = b → w'.cell? p = w.cell? p := fun p hp => World.cell?_of_block (w := w) (by rw [hp]; exact hb)
  have f : ∀ p : Addr, p.block = b → w'.frozen? p = w.frozen? p := fun p hp => World.frozen?_of_block (w := w) (by rw [hp]; exact hb)
  exact ⟨by omega, by rw [k _ rfl]; exact h1, by rw [f _ rfl]; exact h3⟩
theorem Has1.kp {c : Nat} {w w' : World} {b : Nat} {v : Value} (h : Has1 w b v) (hk : Kp c w w') (hne : b ≠ c) : Has1 w' b v := h.of hk.size (hk.block b h.1 (fun e => hne (by cases e; rfl)))
theorem Has1.nw {w w' : World} {b : Nat} {v : Value} (h : Has1 w b v) (hk : Nw w w') : Has1 w' b v := h.of hk.size (hk.block b h.1 (by simp))
theorem Has1.grown {w w' : World} {b : Nat} {v : Value} {row : Option Nat} (h : Has1 w b v) (hk : w.grownBy w' row) (hr : row ≠ some b) : Has1 w' b v := h.of hk.size (hk.block b h.1 (fun e => hr e.symm))
theorem Has1.alloc {w : World} {b : Nat} {v : Value} (h : Has1 w b v) (o : Obj) : Has1 (w.alloc o) b v := h.nw ((Nw.refl _).alloc _)
theorem Has1.draw {w : World} {b : Nat} {v : Value} (h : Has1 w b v) (n : Nat) : Has1 (w.drewN n) b v := h.nw ((Nw.refl _).draw _)
theorem Has1.set {w : World} {b : Nat} {v : Value} (h : Has1 w b v) {p : Addr} (hp : p.block ≠ b) (u : Value) : Has1 (w.setCell p u) b v :=
  h.of (by simp [World.setCell]) (Below.heap_setCell _ _ _ _ (fun e => hp e.symm))
theorem Has1.put {w : World} {b : Nat} {v : Value} (h : Has1 w b v) (u : Value) : Has1 (w.setCell ⟨b, 0, none⟩ u) b u := by
  obtain ⟨h0, h1, h2⟩ := h
  refine ⟨by simpa using h0, ?_, ?_⟩ <;> go_simp
theorem Has1.new (w : World) (T : TypeId) (v : Value) : Has1 (w.alloc (.cells #[v] T (0, 0))) w.heap.size v := by
  refine ⟨by simp, ?_, ?_⟩ <;> go_simp

section
variable {w w' : World} {base : Nat} {E : TypeId} {size : Nat} {v : Value} {n : Nat} {xs : List Value}
theorem own_shape (h : w.ownsRow base E size v n xs) : ∃ a l c, v = .slice a l c := by
  rcases h.2 with ⟨rfl, _⟩ | ⟨g, cap, cur, rfl, _⟩
  · exact ⟨_, _, _, rfl⟩
  · exact ⟨_, _, _, rfl⟩
theorem own_ge (h : w.ownsRow base E size v n xs) (k : Nat) (hk : v.ownBlock = some k) : base ≤ k := (h.lt k hk).1
theorem own_kp {c : Nat} (h : w.ownsRow base E size v n xs) (hk : Kp c w w') (hc : c < base) : w'.ownsRow base E size v n xs := by
  refine h.kept hk ?_
  cases hv : v.ownBlock with
  | none => exact .inl rfl
  | some k => right; intro e; cases e; have := own_ge h _ hv; omega
theorem own_nw (h : w.ownsRow base E size v n xs) (hk : Nw w w') : w'.ownsRow base E size v n xs := h.kept hk (by cases hv : v.ownBlock <;> simp)
theorem own_set (h : w.ownsRow base E size v n xs) {p : Addr} (hp : p.block < base) (u : Value) : (w.setCell p u).ownsRow base E size v n xs := ownsRow_setCell_below h hp u
theorem own_base {b' : Nat} (h : w.ownsRow base E size v n xs) (hb : b' ≤ base) : w.ownsRow b' E size v n xs := by
  refine ⟨h.1, ?_⟩
  rcases h.2 with h | ⟨g, cap, cur, hv, hg, r⟩
  · exact .inl h
  · exact .inr ⟨g, cap, cur, hv, by omega, r⟩
end
theorem At.nw {B : Nat} {w0 : World} {a : Option Addr} {len cap c : Nat} {w w1 : World} (h : At B w0 a len cap c w) (hg : Nw w w1) : At B w0 a len cap c w1 :=
  h.grown (base := max (c + 1) (max B w0.heap.size)) hg (fun k hk => by cases hk) (by omega) (by omega) (by omega)

theorem info_mode : (Tryz.prog.info? 93).map (fun i => (i.zero, i.size, i.bytes)) = some (some (.agg #[.complex .f32 0 0, .complex .f32 0 0]), 2, 16) := by kernel_rfl

/-- what the loop of l2Body holds -/
def BodyI (B : Nat) (w0 : World) (a : Option Addr) (len cap c bb br base M : Nat) (i : Value) (wr : World) : Prop :=
  ∃ (k : Nat) (ms : List M4) (v : Value), i = .int .i64 (k : Int) ∧ k + ms.length ≤ M ∧ At B w0 a len cap c wr ∧ Has1 wr bb v ∧ (∃ u, Has1 wr br u) ∧ wr.ownsRow base 93 2 v ms.length (cellsM ms) ∧ (∀ m ∈ ms, m.ok) ∧ base ≤ wr.heap.size

/-- a body with at most M modes, all valid, in memory from 'base' on -/
def BodyP (B : Nat) (w0 : World) (a : Option Addr) (len cap c M base : Nat) (e : Ending) (w' : World) : Prop :=
  ∃ (ms : List M4) (v : Value), e = .returned (.agg #[v]) ∧ ms.length ≤ M ∧ (∀ m ∈ ms, m.ok) ∧ w'.ownsRow base 93 2 v ms.length (cellsM ms) ∧ At B w0 a len cap c w'

set_option maxHeartbeats 1600000 in
theorem l2Body_at (B : Nat) (w0 : World) (a : Option Addr) (len cap c M : Nat) (hM : M ≤ 16) (w : World) (hc : At B w0 a len cap c w) :
    Calls Tryz.prog 24 #[.pointer (some ⟨c, 0, none⟩), .int .i64 (M : Int)] w (BodyP B w0 a len cap c M w.heap.size) := by
  obtain ⟨i0, hi, hz0, hz1, hz2⟩ := info_parts info_mode
  have hcs : c < w.heap.size := hc.1.2.1
  have hBc : B ≤ c := hc.1.1
  have hw0 : w0.heap.size ≤ w.heap.size := hc.2.size
  have Hc := Lib.hid hc
  clear hc
  go_enter Tryz.func24, Tryz.ntmps24
  have hsz : ∀ o o', ((w.alloc o).alloc o').heap.size = w.heap.size + 2 := fun o o' => by simp
  have Hsz := Lib.hid hsz
  clear hsz
  go_wp2_with fail
  refine (below_at _ _ _ _ _ _ _ (by omega) (by omega) _ ((Hc.out.alloc _).alloc _).here).mono ?_
  rintro e w1 ⟨x, x0, x1, rfl, hc1⟩
  have Hb1 := Lib.hid ((show Has1 ((w.alloc (.cells #[.slice none 0 0] 65 (0, 0))).alloc (.cells #[.slice none 0 0] 65 (0, 0))) (w.heap.size + 1) (.slice none 0 0) from by
    simpa using Has1.new (w.alloc (.cells #[.slice none 0 0] 65 (0, 0))) 65 (.slice none 0 0)).kp hc1.2 (by omega))
  have Hr1 := Lib.hid (((Has1.new w 65 (.slice none 0 0)).alloc (.cells #[.slice none 0 0] 65 (0, 0))).kp hc1.2 (by omega))
  have Hs1 := Lib.hid (show w.heap.size + 2 ≤ w1.heap.size from by have := hc1.2.size; rw [Hsz.out] at this; exact this)
  have Hc1 := Lib.hid (show At B w0 a len cap c w1 from ⟨hc1.1, ((Hc.out.alloc _).alloc _).2.trans hc1.2⟩)
  clear hc1
  go_wp2_with fail
  go_loopw [6] (fun i wr => BodyI B w0 a len cap c (w.heap.size + 1) w.heap.size (w.heap.size + 2) M i wr) (fun i _ => (intOf i).toNat)
  case atStart => exact ⟨x.toNat, [], _, by rw [Int.toNat_of_nonneg x0], by simp; omega, Hc1.out, Hb1.out, ⟨_, Hr1.out⟩, World.ownsRow_nil _ _ _ _, by simp, Hs1.out⟩
  case round =>
    obtain ⟨k, ms, v, rfl, hk, hat, hbb, ⟨u, hbr⟩, hown, hok, hbase⟩ := hrel
    have Hat := Lib.hid hat
    have Hbb := Lib.hid hbb
    have Hbr := Lib.hid hbr
    have Hown := Lib.hid hown
    have Hok := Lib.hid hok
    clear hat hbb hbr hown hok
    by_cases hk0 : 0 < k
    · go_wp2_with fail
      refine (l2Mode_at _ _ _ _ _ _ _ Hat.out.here).mono ?_
      rintro e w2 ⟨pr, pi, gr, gi, rfl, hc2⟩
      have Hc2 := Lib.hid (show At B w0 a len cap c w2 from ⟨hc2.1, Hat.out.2.trans hc2.2⟩)
      have Hbb2 := Lib.hid (Hbb.out.kp hc2.2 (by omega))
      have Hbr2 := Lib.hid (Hbr.out.kp hc2.2 (by omega))
      have Hown2 := Lib.hid (own_kp Hown.out hc2.2 (by omega))
      have Hs2 := Lib.hid (show w.heap.size + 2 ≤ w2.heap.size from by have := hc2.2.size; omega)
      clear hc2
      go_wp2_with fail
      refine (specMode_any _ _ _ _ _).mono ?_
      rintro e w3 ⟨rfl, n3⟩
      have Hc3 := Lib.hid (At.nw (Hc2.out.alloc _) n3)
      have Hm3 := Lib.hid ((HasMode.new w2 93 pr pi gr gi).nw n3)
      have Hbb3 := Lib.hid ((Hbb2.out.alloc _).nw n3)
      have Hbr3 := Lib.hid ((Hbr2.out.alloc _).nw n3)
      have Hown3 := Lib.hid (own_nw (Hown2.out.alloc _) n3)
      have Hs3 := Lib.hid (show w.heap.size + 2 ≤ w3.heap.size from by have := n3.size; have := Hs2.out; simp at *; omega)
      clear n3
      obtain ⟨sa, sl, sc, rfl⟩ := own_shape Hown3.out
      obtain ⟨m0, m1, m2, -, -⟩ := Hm3.out
      obtain ⟨b0, b1, b2⟩ := Hbb3.out
      cases hv : modeB pr pi gr gi labs
      · go_wp2_with fail
        go_roundw
        case rel => exact ⟨k - 1, ms, _, by rw [show ((k - 1 : Nat) : Int) = (k : Int) - 1 from by omega], by omega, Hc3.out, Hbb3.out, ⟨_, Hbr3.out⟩, Hown3.out, Hok.out, Hs3.out⟩
        case measure => simp only [intOf]; omega
      · go_wp2_with (at_builtin; refine wpList_append_own _ rfl _ _ 56 rfl (w.heap.size + 2) 93 i0 (.agg #[.complex .f32 0 0, .complex .f32 0 0]) 2 16 Tryz.underlying56 hi hz0 hz1 hz2 rfl (by decide) _ _ _ rfl (Hown3.out.alloc _) ⟨w3.heap.size, 0, none⟩ 1 1 [.complex .f32 pr pi, .complex .f32 gr gi] rfl rfl ?c1 ?c2 ?c3 ?c4 ?c5 ?_)
        case c1 =>
          intro j u hj
          match j, hj with
          | 0, hj => simp at hj; subst hj; simp [Addr.add]
          | 1, hj => simp at hj; subst hj; simp [Addr.add]
        case c2 => intro u hu; simp at hu; rcases hu with rfl | rfl <;> rfl
        case c3 => unfold maxLen; omega
        case c4 => omega
        case c5 => have := Hs3.out; simp; omega
        · intro v' w4 hown4 hgrow _
          have hrow : ∀ q, (Value.slice sa sl sc).ownBlock = some q → w.heap.size + 2 ≤ q := fun q hq => own_ge Hown3.out q hq
          have Hc4 := Lib.hid ((Hc3.out.alloc _).grown hgrow hrow (by omega) (by omega) (by omega))
          have Hbb4 := Lib.hid ((Hbb3.out.alloc _).grown hgrow (fun e => by have := hrow _ e; omega))
          have Hbr4 := Lib.hid ((Hbr3.out.alloc _).grown hgrow (fun e => by have := hrow _ e; omega))
          have Hs4 := Lib.hid (show w.heap.size + 2 ≤ w4.heap.size from by have := hgrow.size; have := Hs3.out; simp at *; omega)
          rw [show cellsM ms ++ [Value.complex .f32 pr pi, Value.complex .f32 gr gi] = cellsM (ms ++ [⟨pr, pi, gr, gi⟩]) from (cellsM_snoc ms ⟨pr, pi, gr, gi⟩).symm, show ms.length + 1 = (ms ++ [(⟨pr, pi, gr, gi⟩ : M4)]).length from by simp] at hown4
          obtain ⟨ta, tl, tc, rfl⟩ := own_shape hown4
          have Hown4 := Lib.hid hown4
          have Hok4 := Lib.hid (show ∀ m ∈ ms ++ [(⟨pr, pi, gr, gi⟩ : M4)], m.ok from by
            intro m hm
            rcases List.mem_append.1 hm with hm | hm
            · exact Hok.out m hm
            · simp at hm; subst hm; exact hv)
          clear hown4 hgrow hrow b0 b1 b2 m0 m1 m2
          obtain ⟨b0, b1, b2⟩ := Hbb4.out
          go_wp2_with fail
          go_roundw
          case rel => exact ⟨k - 1, ms ++ [⟨pr, pi, gr, gi⟩], _, by rw [show ((k - 1 : Nat) : Int) = (k : Int) - 1 from by omega], by simp; omega, Hc4.out.set (by show w.heap.size + 1 ≠ c; omega) (by show B ≤ w.heap.size + 1; omega) (by show w0.heap.size ≤ w.heap.size + 1; omega) _, Hbb4.out.put _, ⟨_, Hbr4.out.set (by show w.heap.size + 1 ≠ w.heap.size; omega) _⟩, own_set Hown4.out (by show w.heap.size + 1 < w.heap.size + 2; omega) _, Hok4.out, by simpa using Hs4.out⟩
          case measure => simp only [intOf]; omega
    · obtain ⟨sa, sl, sc, rfl⟩ := own_shape Hown.out
      obtain ⟨b0, b1, b2⟩ := Hbb.out
      obtain ⟨r0, r1, r2⟩ := Hbr.out
      go_wp2_with fail
      exact bodyPost_ret (v := .agg #[.slice sa sl sc]) (by simp [results, Tryz.results24, go_sem, r0, r1, r2]) rfl
        ⟨ms, _, rfl, by omega, Hok.out, own_base (own_set Hown.out (by show w.heap.size < w.heap.size + 2; omega) _) (by omega), Hat.out.set (by show w.heap.size ≠ c; omega) (by show B ≤ w.heap.size; omega) hw0 _⟩

end Go.Proofs.YtiakcibeobbonaaGreat

/- The walks of MakeBody, MakeSmall and of the laws' own 'at'.
   Conditions: those that each statement names. -/
namespace Go.Proofs.YtiakcibeobbonaaGreat
set_option linter.unusedSimpArgs false
set_option linter.unusedVariables false
open Go Go.RowKit

/-- a body with at most M modes, all valid, in memory of the call's own -/
def MadeB (M : Nat) (w : World) (e : Ending) (w' : World) : Prop :=
  ∃ (ms : List M4) (v : Value), e = .returned (.agg #[v]) ∧ ms.length ≤ M ∧ (∀ m ∈ ms, m.ok) ∧ w'.ownsRow w.heap.size 93 2 v ms.length (cellsM ms) ∧ Nw w w'

theorem Nw.set' {a w : World} (h : Nw a w) {p : Addr} (hp : a.heap.size ≤ p.block) (u : Value) : Nw a (w.setCell p u) := h.set hp u
theorem At.toNw {B : Nat} {w0 : World} {a : Option Addr} {len cap c : Nat} {w : World} (h : At B w0 a len cap c w) (hc : w0.heap.size ≤ c) : Nw w0 w := h.2.nw hc

/-! ### samples -/
theorem num_1000 : Sm 1148846080 ∧ S 1148846080 = 1000 := by
  have h : Ieee.single.read 1148846080 = .number false 16384000 (-14) := by decide
  refine ⟨⟨_, _, _, h⟩, ?_⟩
  rw [show S 1148846080 = _ from Flo.V_eq h]
  unfold Flo.val
  have := Flo.pw_neg_mul 14
  have e : Flo.pw 14 = 16384 := Flo.pw_nat 14
  rw [e] at this
  simp only [Bool.false_eq_true, if_false]
  have e2 : ((16384000 : Nat) : Rat) = 16384000 := rfl
  rw [e2]; grind

/-- a sample that MakeSmall draws, if its greatest one is at most K in absolute value -/
def Samp (K : Rat) (b : Nat) : Prop := Sm b ∧ Flo.Ab (S b) (K + K / 1000000 + 1 / 1000000)

theorem samp_ok (mb : Nat) (K : Rat) (hm : Sm mb) (hK : Flo.Ab (S mb) K) (hK60 : K ≤ Flo.pw 60) (z : Int) (h0 : 0 ≤ z) (h1 : z < 2001) :
    ∃ r1 r2, floatBits .mul .f32 mb (floatOfInt .f32 (z - 1000)) = some r1 ∧ floatBits .quo .f32 r1 1148846080 = some r2 ∧ Samp K r2 := by
  obtain ⟨n1, v1⟩ := Flo.int_single (z - 1000) (by omega)
  have hz : Flo.Ab (S (floatOfInt .f32 (z - 1000))) 1000 := by
    rw [v1]
    have a1 : (-1000 : Rat) ≤ ((z - 1000 : Int) : Rat) := Rat.intCast_le_intCast.2 (show -1000 ≤ z - 1000 by omega)
    have a2 : ((z - 1000 : Int) : Rat) ≤ 1000 := Rat.intCast_le_intCast.2 (show z - 1000 ≤ 1000 by omega)
    exact ⟨a1, a2⟩
  have hK0 := hK.nonneg
  have hp := hK.mul hz
  have e71 : Flo.pw 71 = 2048 * Flo.pw 60 := by rw [show (71 : Int) = 11 + 60 from rfl, Flo.pw_add, show Flo.pw 11 = 2048 from Flo.pw_nat 11]
  have l71 := Flo.pw_lt (a := 71) (b := 126) (by omega)
  have l72 := Flo.pw_lt (a := 126) (b := 127) (by omega)
  have o60 : 1 ≤ Flo.pw 60 := by rw [← Flo.pw_zero]; exact Flo.pw_le (by omega)
  have ve := Flo.v_eq
  have v0 := Flo.v_pos
  have es0 := Flo.es_pos
  have ev : Flo.es ≤ Flo.v := Flo.pw_le (by omega)
  have hKv : K * Flo.v = K / 16777216 := by
    have : Flo.v = 1 / 16777216 := by grind
    rw [this]; grind
  obtain ⟨r1, a1, a2, a3⟩ := Flo.s_mul _ _ hm n1 (K * 1000) hp (by grind)
  have hq : (S r1 / 1000) * S 1148846080 = S r1 := by rw [num_1000.2]; grind
  have h1000 : Flo.Ab (S r1) (K * 1000 + K * 1000 * Flo.v + Flo.es) := ((a3.add hp).eq (by grind)).mono (by grind)
  have hq2 : Flo.Ab (S r1 / 1000) (K + K * Flo.v + Flo.es) := by
    unfold Flo.Ab at *; constructor <;> grind
  obtain ⟨r2, b1, b2, b3⟩ := Flo.s_div r1 1148846080 a2 num_1000.1 (by rw [num_1000.2]; grind) _ _ hq hq2 (by grind)
  refine ⟨r1, r2, a1, b1, b2, ?_⟩
  refine ((b3.add hq2).eq (show S r2 - S r1 / 1000 + S r1 / 1000 = S r2 by grind)).mono ?_
  have hKvv : K * Flo.v * Flo.v = K / 16777216 / 16777216 := by
    rw [hKv]; have : Flo.v = 1 / 16777216 := by grind
    rw [this]; grind
  have hev : Flo.es * Flo.v ≤ Flo.es := by
    have := Rat.mul_le_mul_of_nonneg_left (show Flo.v ≤ 1 by grind) (Rat.le_of_lt es0); grind
  grind

theorem info_f32 : (Tryz.prog.info? 23).map (fun i => (i.zero, i.size, i.bytes)) = some (some (.float .f32 0), 1, 4) := by kernel_rfl

/-- the cells of a row of samples -/
def cellsS (xs : List Nat) : List Value := xs.map (Value.float .f32)

def SmallI (B : Nat) (w0 : World) (a : Option Addr) (len cap c base : Nat) (K : Rat) (v i : Value) (wr : World) : Prop :=
  ∃ (k : Nat) (xs : List Nat), i = .int .i64 (k : Int) ∧ k + xs.length ≤ 11 ∧ At B w0 a len cap c wr ∧ wr.ownsRow base 23 1 v xs.length (cellsS xs) ∧ (∀ x ∈ xs, Samp K x) ∧ base ≤ wr.heap.size

/-- at most eleven samples, in memory of the call's own -/
def SmallP (K : Rat) (w : World) (e : Ending) (w' : World) : Prop :=
  ∃ (xs : List Nat) (v : Value), e = .returned v ∧ xs.length ≤ 11 ∧ (∀ x ∈ xs, Samp K x) ∧ w'.ownsRow w.heap.size 23 1 v xs.length (cellsS xs) ∧ Nw w w'

/-! ### the laws' own bytes -/
theorem ret_int' {k : IntKind} {a b : Int} (h : a = b) : Ending.returned (.int k a) = .returned (.int k b) := by rw [h]
def AtP (w : World) (e : Ending) (w' : World) : Prop := ∃ z : Nat, z ≤ 255 ∧ e = .returned (.int .i64 (z : Int)) ∧ w = w'
theorem at_any (a : Option Addr) (len cap i : Nat) (hl : len ≤ 1048576) (hi : i ≤ 100) (w : World) (hb : Bys w.heap.size a len w) :
    Calls Tryz.prog 6 #[.slice a len cap, .int .i64 (i : Int)] w (AtP w) := by
  by_cases hlt : i < len
  · rcases hb.2 with h00 | ⟨blk, off, rfl, hblk, hcell⟩
    · omega
    · obtain ⟨x, hx, hcx⟩ := hcell i hlt
      clear hcell hb
      go_enter Tryz.func6, Tryz.ntmps6
      go_wp2
      go_ret
      exact ⟨x, hx, rfl, rfl⟩
  · clear hb
    go_enter Tryz.func6, Tryz.ntmps6
    go_wp2
    go_ret
    exact ⟨(i * 37 + len * 11) % 256, by omega, ret_int' (show ((i : Int) * 37 + len * 11) % 256 = (((i * 37 + len * 11) % 256 : Nat) : Int) by omega), rfl⟩

end Go.Proofs.YtiakcibeobbonaaGreat

/- One step of a mode in single precision: its bits, how near it is to the exact step, and the walks of MultiplySingle, ScaleSingle and StepMode.
   Conditions: those that each statement names. -/
namespace Go.Proofs.YtiakcibeobbonaaGreat
set_option linter.unusedSimpArgs false
set_option linter.unusedVariables false
open Go Go.RowKit

/-- the bits of an operation that has a number, or an infinity, as its result -/
def opB (o : BinOp) (k : FloatKind) (x y : Nat) : Nat := (floatBits o k x y).getD 0
/-- it draws nothing -/
def Calm (o : BinOp) (k : FloatKind) (x y : Nat) : Prop := floatBits o k x y = some (opB o k x y)
theorem Calm.of {o : BinOp} {k : FloatKind} {x y r : Nat} (h : floatBits o k x y = some r) : Calm o k x y ∧ opB o k x y = r := by
  have e : opB o k x y = r := by unfold opB; rw [h]; rfl
  exact ⟨by unfold Calm; rw [e]; exact h, e⟩
theorem Calm.res {o : BinOp} {k : FloatKind} {x y : Nat} (h : Calm o k x y) (w : World) : fres w o k x y = opB o k x y := by unfold fres; rw [h]
theorem Calm.fdr {o : BinOp} {k : FloatKind} {x y : Nat} (h : Calm o k x y) : fdr o k x y = 0 := by unfold Go.Proofs.YtiakcibeobbonaaGreat.fdr; rw [h]; rfl

theorem Calm.run {P : Program} {k : FloatKind} {x y : Nat} (h : Calm .add k x y) (t : TypeId) (w : World) : (binOp .add t (.float k x) (.float k y)).run P w = .ok (.float k (opB .add k x y)) w := by
  rw [run_fl_add, h.res, h.fdr]; rfl

/-! ### products in single precision -/
def mulSre (a b c d : Nat) : Nat := Flo.nar (opB .sub .f64 (opB .mul .f64 (wid a) (wid c)) (opB .mul .f64 (wid b) (wid d)))
def mulSim (a b c d : Nat) : Nat := Flo.nar (opB .add .f64 (opB .mul .f64 (wid a) (wid d)) (opB .mul .f64 (wid b) (wid c)))

/-- all that is known of one part of a product: nothing is drawn, and the result is near the exact one -/
structure PartOk (o : BinOp) (a c b d : Nat) (exact D K : Rat) : Prop where
  c1 : Calm .mul .f64 (wid a) (wid c)
  c2 : Calm .mul .f64 (wid b) (wid d)
  c3 : Calm o .f64 (opB .mul .f64 (wid a) (wid c)) (opB .mul .f64 (wid b) (wid d))
  n1 : ∀ w, fcv w .f64 (opB o .f64 (opB .mul .f64 (wid a) (wid c)) (opB .mul .f64 (wid b) (wid d))) .f32 = Flo.nar (opB o .f64 (opB .mul .f64 (wid a) (wid c)) (opB .mul .f64 (wid b) (wid d)))
  n2 : fcd .f64 (opB o .f64 (opB .mul .f64 (wid a) (wid c)) (opB .mul .f64 (wid b) (wid d))) .f32 = 0
  num : Sm (Flo.nar (opB o .f64 (opB .mul .f64 (wid a) (wid c)) (opB .mul .f64 (wid b) (wid d))))
  near : Flo.Ab (S (Flo.nar (opB o .f64 (opB .mul .f64 (wid a) (wid c)) (opB .mul .f64 (wid b) (wid d)))) - exact) (D * Flo.v + (D + K) * Flo.v / 16777216 + 2 * Flo.es)

theorem uv : Flo.u ≤ Flo.v / 536870912 := Flo.u_le_v

/-- the sums of the errors, in plain numbers -/
theorem part_sum (D K u v et es : Rat) (hD : 0 ≤ D) (hK : 0 ≤ K) (u0 : 0 < u) (huv : u ≤ v / 536870912) (ve : v * 16777216 = 1) (e0 : 0 < et) (ee : et ≤ es / 1024) :
    0 ≤ K * u ∧ K * u ≤ K / 1048576 ∧ (D + 2 * (K * u + et)) * u + et + 2 * (K * u + et) ≤ D / 1048576 + K / 1048576 + es ∧
    (D + ((D + 2 * (K * u + et)) * u + et + 2 * (K * u + et))) * v + es + ((D + 2 * (K * u + et)) * u + et + 2 * (K * u + et)) ≤ D * v + (D + K) * v / 16777216 + 2 * es := by
  have hv : v = 1 / 16777216 := by grind
  subst hv
  have u1 : u ≤ 1 / 1048576 := by grind
  have k1 := Rat.mul_le_mul_of_nonneg_left huv hK
  have k2 := Rat.mul_nonneg hK (Rat.le_of_lt u0)
  have d1 := Rat.mul_le_mul_of_nonneg_left huv hD
  have d2 := Rat.mul_nonneg hD (Rat.le_of_lt u0)
  have k3 := Rat.mul_le_mul_of_nonneg_left u1 k2
  have k4 := Rat.mul_nonneg k2 (Rat.le_of_lt u0)
  have t1 := Rat.mul_le_mul_of_nonneg_left u1 (Rat.le_of_lt e0)
  have t2 := Rat.mul_nonneg (Rat.le_of_lt e0) (Rat.le_of_lt u0)
  refine ⟨k2, by grind, by grind, by grind⟩

structure Small' : Prop where
  ee : Flo.et ≤ Flo.es / 1024
  es1 : Flo.es ≤ 1 / 1048576
  o120 : 1 ≤ Flo.pw 120
  l0 : Flo.pw 127 < Flo.pw 1023
  l2 : Flo.pw 123 = 8 * Flo.pw 120
  l3 : Flo.pw 126 = 2 * Flo.pw 125
  l4 : Flo.pw 127 = 2 * Flo.pw 126
  l5 : Flo.pw 125 = 4 * Flo.pw 123
theorem small' : Small' where
  ee := by
    have : Flo.pw (-1074) ≤ Flo.pw (-159) := Flo.pw_le (by omega)
    have e2 : Flo.pw (-149) = 1024 * Flo.pw (-159) := by rw [show (-149 : Int) = 10 + -159 from rfl, Flo.pw_add, show Flo.pw 10 = 1024 from Flo.pw_nat 10]
    unfold Flo.et Flo.es
    grind
  es1 := by
    have h : Flo.pw (-149) ≤ Flo.pw (-20) := Flo.pw_le (by omega)
    have e := Flo.pw_neg_mul 20
    rw [show Flo.pw 20 = 1048576 from Flo.pw_nat 20] at e
    unfold Flo.es; grind
  o120 := by rw [← Flo.pw_zero]; exact Flo.pw_le (by omega)
  l0 := Flo.pw_lt (by omega)
  l2 := by rw [show (123 : Int) = 3 + 120 from rfl, Flo.pw_add, show Flo.pw 3 = 8 from Flo.pw_nat 3]
  l3 := by rw [← Flo.pw_succ]; rfl
  l4 := by rw [← Flo.pw_succ]; rfl
  l5 := by rw [show (125 : Int) = 2 + 123 from rfl, Flo.pw_add, show Flo.pw 2 = 4 from Flo.pw_nat 2]

/-- what the rounded difference of two rounded products is -/
theorem part_sub (a c b d : Nat) (ha : Sm a) (hc : Sm c) (hb : Sm b) (hd : Sm d) (K D : Rat) (h1 : Flo.Ab (S a * S c) K) (h2 : Flo.Ab (S b * S d) K) (hD : Flo.Ab (S a * S c - S b * S d) D) (hK : K ≤ Flo.pw 120) (hDt : D ≤ Flo.pw 125) :
    PartOk .sub a c b d (S a * S c - S b * S d) D K := by
  obtain ⟨na, va⟩ := wid_num ha
  obtain ⟨nc, vc⟩ := wid_num hc
  obtain ⟨nb, vb⟩ := wid_num hb
  obtain ⟨nd, vd⟩ := wid_num hd
  obtain ⟨ee, es1, o120, l0, l2, l3, l4, l5⟩ := small'
  obtain ⟨s0, s1, s2, s3⟩ := part_sum D K Flo.u Flo.v Flo.et Flo.es hD.nonneg h1.nonneg Flo.u_pos uv Flo.v_eq Flo.et_pos ee
  have e0 := Flo.et_pos
  obtain ⟨p, p1, p2, p3⟩ := Flo.d_mul (wid a) (wid c) na nc K (by rw [va, vc]; exact h1) (by grind)
  obtain ⟨q, q1, q2, q3⟩ := Flo.d_mul (wid b) (wid d) nb nd K (by rw [vb, vd]; exact h2) (by grind)
  rw [va, vc] at p3
  rw [vb, vd] at q3
  have hpq : Flo.Ab (Flo.W p - Flo.W q) (D + 2 * (K * Flo.u + Flo.et)) := ((hD.add (p3.sub q3)).eq (by grind)).mono (by grind)
  obtain ⟨r, r1, r2, r3⟩ := Flo.d_sub p q p2 q2 _ hpq (by grind)
  obtain ⟨c1, b1⟩ := Calm.of p1
  obtain ⟨c2, b2⟩ := Calm.of q1
  obtain ⟨c3, b3⟩ := Calm.of r1
  have hr : Flo.Ab (Flo.W r - (S a * S c - S b * S d)) ((D + 2 * (K * Flo.u + Flo.et)) * Flo.u + Flo.et + 2 * (K * Flo.u + Flo.et)) := ((r3.add (p3.sub q3)).eq (by grind)).mono (by grind)
  obtain ⟨m1, m2, m3, m4⟩ := Flo.narrow_ok r r2 _ ((hD.add hr).eq (show _ = Flo.W r by grind)) (by grind)
  rw [← b1, ← b2] at c3 b3
  rw [← b3] at m1 m2 m3 m4 hr
  exact ⟨c1, c2, c3, m1, m2, m3, ((m4.add hr).eq (by grind)).mono s3⟩

/-- .. and the sum -/
theorem part_add (a c b d : Nat) (ha : Sm a) (hc : Sm c) (hb : Sm b) (hd : Sm d) (K D : Rat) (h1 : Flo.Ab (S a * S c) K) (h2 : Flo.Ab (S b * S d) K) (hD : Flo.Ab (S a * S c + S b * S d) D) (hK : K ≤ Flo.pw 120) (hDt : D ≤ Flo.pw 125) :
    PartOk .add a c b d (S a * S c + S b * S d) D K := by
  obtain ⟨na, va⟩ := wid_num ha
  obtain ⟨nc, vc⟩ := wid_num hc
  obtain ⟨nb, vb⟩ := wid_num hb
  obtain ⟨nd, vd⟩ := wid_num hd
  obtain ⟨ee, es1, o120, l0, l2, l3, l4, l5⟩ := small'
  obtain ⟨s0, s1, s2, s3⟩ := part_sum D K Flo.u Flo.v Flo.et Flo.es hD.nonneg h1.nonneg Flo.u_pos uv Flo.v_eq Flo.et_pos ee
  have e0 := Flo.et_pos
  obtain ⟨p, p1, p2, p3⟩ := Flo.d_mul (wid a) (wid c) na nc K (by rw [va, vc]; exact h1) (by grind)
  obtain ⟨q, q1, q2, q3⟩ := Flo.d_mul (wid b) (wid d) nb nd K (by rw [vb, vd]; exact h2) (by grind)
  rw [va, vc] at p3
  rw [vb, vd] at q3
  have hpq : Flo.Ab (Flo.W p + Flo.W q) (D + 2 * (K * Flo.u + Flo.et)) := ((hD.add (p3.add q3)).eq (by grind)).mono (by grind)
  obtain ⟨r, r1, r2, r3⟩ := Flo.d_add p q p2 q2 _ hpq (by grind)
  obtain ⟨c1, b1⟩ := Calm.of p1
  obtain ⟨c2, b2⟩ := Calm.of q1
  obtain ⟨c3, b3⟩ := Calm.of r1
  have hr : Flo.Ab (Flo.W r - (S a * S c + S b * S d)) ((D + 2 * (K * Flo.u + Flo.et)) * Flo.u + Flo.et + 2 * (K * Flo.u + Flo.et)) := ((r3.add (p3.add q3)).eq (by grind)).mono (by grind)
  obtain ⟨m1, m2, m3, m4⟩ := Flo.narrow_ok r r2 _ ((hD.add hr).eq (show _ = Flo.W r by grind)) (by grind)
  rw [← b1, ← b2] at c3 b3
  rw [← b3] at m1 m2 m3 m4 hr
  exact ⟨c1, c2, c3, m1, m2, m3, ((m4.add hr).eq (by grind)).mono s3⟩

/-! ### one step -/
def stepS (m : M4) (s : Nat × Nat) (x : Nat) : Nat × Nat :=
  (opB .add .f32 (mulSre s.1 s.2 m.pr m.pi) (opB .mul .f32 m.gr x), opB .add .f32 (mulSim s.1 s.2 m.pr m.pi) (opB .mul .f32 m.gi x))

structure StepOk (m : M4) (s : Nat × Nat) (x : Nat) : Prop where
  s1 : Sm s.1
  s2 : Sm s.2
  p1 : ∃ e D K, PartOk .sub s.1 m.pr s.2 m.pi e D K
  p2 : ∃ e D K, PartOk .add s.1 m.pi s.2 m.pr e D K
  c1 : Calm .mul .f32 m.gr x
  c2 : Calm .mul .f32 m.gi x
  c3 : Calm .add .f32 (mulSre s.1 s.2 m.pr m.pi) (opB .mul .f32 m.gr x)
  c4 : Calm .add .f32 (mulSim s.1 s.2 m.pr m.pi) (opB .mul .f32 m.gi x)

theorem M4.ok.nums {m : M4} (h : m.ok) : Sm m.pr ∧ Sm m.pi ∧ Sm m.gr ∧ Sm m.gi := by
  obtain ⟨h1, h2, h3, h4, -, -, -⟩ := Valid.parts h
  exact ⟨Sm_of h1, Sm_of h2, Sm_of h3, Sm_of h4⟩

/-- a valid pole's parts are at most 2 -/
theorem M4.ok.pole {m : M4} (h : m.ok) : Flo.Ab (S m.pr) 2 ∧ Flo.Ab (S m.pi) 2 := by
  have hs := Valid.square h
  have a := square_nonneg (S m.pr)
  have b := square_nonneg (S m.pi)
  have key : ∀ q : Rat, q * q ≤ 2 → Flo.Ab q 2 := by
    intro q hq
    constructor
    · rcases Rat.le_total (a := -2) (b := q) with g | g
      · exact g
      · have := Rat.mul_le_mul_of_nonneg_left g (show (0 : Rat) ≤ 2 by grind)
        have g2 := Rat.mul_nonneg (show 0 ≤ -2 - q by grind) (show 0 ≤ -2 - q by grind)
        grind
    · rcases Rat.le_total (a := q) (b := 2) with g | g
      · exact g
      · have g2 := Rat.mul_nonneg (show 0 ≤ q - 2 by grind) (show 0 ≤ q - 2 by grind)
        grind
  exact ⟨key _ (by grind), key _ (by grind)⟩

/-- the sums of the errors of one part, in plain numbers -/
theorem step_sum (D R H v es : Rat) (hD : 0 ≤ D) (hR : 0 ≤ R) (hH : 0 ≤ H) (ve : v * 16777216 = 1) (e0 : 0 < es) :
    (D + (D * v + (D + 2 * R) * v / 16777216 + 2 * es) + (H + (H * v + es))) * v + es + (D * v + (D + 2 * R) * v / 16777216 + 2 * es) + (H * v + es) ≤ (2 * D + 2 * H) * v + (D + R + H) * v / 1024 + 6 * es := by
  have hv : v = 1 / 16777216 := by grind
  subst hv
  grind

theorem part_step (p g x : Nat) (hp : Sm p) (hg : Sm g) (hx : Sm x) (e D R H : Rat) (hR : 0 ≤ R) (he : Flo.Ab e D) (hn : Flo.Ab (S p - e) (D * Flo.v + (D + 2 * R) * Flo.v / 16777216 + 2 * Flo.es)) (hH : Flo.Ab (S g * S x) H)
    (hRt : R ≤ Flo.pw 110) (hDt : D ≤ Flo.pw 112) (hHt : H ≤ Flo.pw 112) :
    Calm .mul .f32 g x ∧ Calm .add .f32 p (opB .mul .f32 g x) ∧ Sm (opB .add .f32 p (opB .mul .f32 g x)) ∧ Flo.Ab (S (opB .add .f32 p (opB .mul .f32 g x)) - (e + S g * S x)) ((2 * D + 2 * H) * Flo.v + (D + R + H) * Flo.v / 1024 + 6 * Flo.es) := by
  have l1 : Flo.pw 112 = 4 * Flo.pw 110 := by rw [show (112 : Int) = 2 + 110 from rfl, Flo.pw_add, show Flo.pw 2 = 4 from Flo.pw_nat 2]
  have l2 : Flo.pw 120 = 256 * Flo.pw 112 := by rw [show (120 : Int) = 8 + 112 from rfl, Flo.pw_add, show Flo.pw 8 = 256 from Flo.pw_nat 8]
  have l3 := Flo.pw_lt (a := 120) (b := 127) (by omega)
  have l4 : 1 ≤ Flo.pw 110 := by rw [← Flo.pw_zero]; exact Flo.pw_le (by omega)
  have es1 := small'.es1
  have es0 := Flo.es_pos
  have v0 := Flo.v_pos
  have ve := Flo.v_eq
  have hv : Flo.v = 1 / 16777216 := by grind
  have hD0 := he.nonneg
  have hH0 := hH.nonneg
  obtain ⟨g1, a1, a2, a3⟩ := Flo.s_mul g x hg hx H hH (by grind)
  obtain ⟨c1, b1⟩ := Calm.of a1
  have hs : Flo.Ab (S p + S g1) (D + (D * Flo.v + (D + 2 * R) * Flo.v / 16777216 + 2 * Flo.es) + (H + (H * Flo.v + Flo.es))) := ((he.add hn).add (hH.add a3)).eq (by grind)
  obtain ⟨r, r1, r2, r3⟩ := Flo.s_add p g1 hp a2 _ hs (by rw [hv]; grind)
  obtain ⟨c2, b2⟩ := Calm.of r1
  rw [← b1] at c2 b2 a3
  rw [← b1] at r3
  refine ⟨c1, c2, by rw [b2]; exact r2, ?_⟩
  rw [b2]
  exact (((r3.add hn).add a3).eq (by grind)).mono (step_sum D R H Flo.v Flo.es hD0 hR hH0 ve es0)

/-- ONE STEP OF A VALID MODE: nothing is drawn, and the new state is near the exact one. -/
theorem step_ok (m : M4) (hm : m.ok) (s : Nat × Nat) (x : Nat) (h1 : Sm s.1) (h2 : Sm s.2) (hx : Sm x) (R D H : Rat) (r1 : Flo.Ab (S s.1) R) (r2 : Flo.Ab (S s.2) R)
    (d1 : Flo.Ab (S s.1 * S m.pr - S s.2 * S m.pi) D) (d2 : Flo.Ab (S s.1 * S m.pi + S s.2 * S m.pr) D) (g1 : Flo.Ab (S m.gr * S x) H) (g2 : Flo.Ab (S m.gi * S x) H) (hRt : R ≤ Flo.pw 110) (hDt : D ≤ Flo.pw 112) (hHt : H ≤ Flo.pw 112) :
    StepOk m s x ∧ Sm (stepS m s x).1 ∧ Sm (stepS m s x).2 ∧
      Flo.Ab (S (stepS m s x).1 - (S s.1 * S m.pr - S s.2 * S m.pi + S m.gr * S x)) ((2 * D + 2 * H) * Flo.v + (D + R + H) * Flo.v / 1024 + 6 * Flo.es) ∧
      Flo.Ab (S (stepS m s x).2 - (S s.1 * S m.pi + S s.2 * S m.pr + S m.gi * S x)) ((2 * D + 2 * H) * Flo.v + (D + R + H) * Flo.v / 1024 + 6 * Flo.es) := by
  obtain ⟨n1, n2, n3, n4⟩ := hm.nums
  obtain ⟨q1, q2⟩ := hm.pole
  have hR0 := r1.nonneg
  have l1 : Flo.pw 120 = 1024 * Flo.pw 110 := by rw [show (120 : Int) = 10 + 110 from rfl, Flo.pw_add, show Flo.pw 10 = 1024 from Flo.pw_nat 10]
  have l2 := Flo.pw_lt (a := 112) (b := 125) (by omega)
  have l3 := Flo.pw_pos 110
  have k1 : Flo.Ab (S s.1 * S m.pr) (2 * R) := (r1.mul q1).mono (by grind)
  have k2 : Flo.Ab (S s.2 * S m.pi) (2 * R) := (r2.mul q2).mono (by grind)
  have k3 : Flo.Ab (S s.1 * S m.pi) (2 * R) := (r1.mul q2).mono (by grind)
  have k4 : Flo.Ab (S s.2 * S m.pr) (2 * R) := (r2.mul q1).mono (by grind)
  have P1 := part_sub s.1 m.pr s.2 m.pi h1 n1 h2 n2 (2 * R) D k1 k2 d1 (by grind) (by grind)
  have P2 := part_add s.1 m.pi s.2 m.pr h1 n2 h2 n1 (2 * R) D k3 k4 d2 (by grind) (by grind)
  obtain ⟨a1, a2, a3, a4⟩ := part_step _ m.gr x P1.num n3 hx _ D R H hR0 d1 P1.near g1 hRt hDt hHt
  obtain ⟨b1, b2, b3, b4⟩ := part_step _ m.gi x P2.num n4 hx _ D R H hR0 d2 P2.near g2 hRt hDt hHt
  exact ⟨⟨h1, h2, ⟨_, _, _, P1⟩, ⟨_, _, _, P2⟩, a1, b1, a2, b2⟩, a3, b3, a4, b4⟩

/-! ### the walks -/
theorem implMul_calm (a b c d : Nat) (w : World) (h1 : Calm .mul .f64 a c) (h2 : Calm .mul .f64 b d) (h3 : Calm .sub .f64 (opB .mul .f64 a c) (opB .mul .f64 b d))
    (h4 : Calm .mul .f64 a d) (h5 : Calm .mul .f64 b c) (h6 : Calm .add .f64 (opB .mul .f64 a d) (opB .mul .f64 b c)) :
    Calls Tryz.prog 119 #[.complex .f64 a b, .complex .f64 c d] w fun e w' =>
      e = .returned (.complex .f64 (opB .sub .f64 (opB .mul .f64 a c) (opB .mul .f64 b d)) (opB .add .f64 (opB .mul .f64 a d) (opB .mul .f64 b c))) ∧ w = w' := by
  have r1 := h1.res
  have r2 := h2.res
  have r3 := h3.res
  have r4 := h4.res
  have r5 := h5.res
  have r6 := h6.res
  have q1 := h1.fdr
  have q2 := h2.fdr
  have q3 := h3.fdr
  have q4 := h4.fdr
  have q5 := h5.fdr
  have q6 := h6.fdr
  clear h1 h2 h3 h4 h5 h6
  go_enter Tryz.func119, Tryz.ntmps119
  go_wp2
  all_goals (go_ret; exact ⟨rfl, rfl⟩)

theorem implNarrow_ok (p q r s : Nat) (w : World) (h1 : ∀ w, fcv w .f64 p .f32 = r) (h2 : ∀ w, fcv w .f64 q .f32 = s) (h3 : fcd .f64 p .f32 = 0) (h4 : fcd .f64 q .f32 = 0) :
    Calls Tryz.prog 118 #[.complex .f64 p q] w fun e w' => e = .returned (.complex .f32 r s) ∧ w = w' := by
  go_enter Tryz.func118, Tryz.ntmps118
  go_wp2
  go_ret
  exact ⟨rfl, rfl⟩

theorem implMulSingle_ok (a b c d : Nat) (w : World) (ha : Sm a) (hb : Sm b) (hc : Sm c) (hd : Sm d) (h1 : ∃ e D K, PartOk .sub a c b d e D K) (h2 : ∃ e D K, PartOk .add a d b c e D K) :
    Calls Tryz.prog 111 #[.complex .f32 a b, .complex .f32 c d] w fun e w' => e = .returned (.complex .f32 (mulSre a b c d) (mulSim a b c d)) ∧ w = w' := by
  obtain ⟨_, _, _, P1⟩ := h1
  obtain ⟨_, _, _, P2⟩ := h2
  go_enter Tryz.func111, Tryz.ntmps111
  go_wp2_with fail
  refine (implWiden_fin _ _ _ ha hb).mono ?_
  rintro e w' ⟨rfl, rfl⟩
  go_wp2_with fail
  refine (implWiden_fin _ _ _ hc hd).mono ?_
  rintro e w' ⟨rfl, rfl⟩
  go_wp2_with fail
  refine (implMul_calm _ _ _ _ _ P1.c1 P1.c2 P1.c3 P2.c1 P2.c2 P2.c3).mono ?_
  rintro e w' ⟨rfl, rfl⟩
  go_wp2_with fail
  refine (implNarrow_ok _ _ _ _ _ P1.n1 P2.n1 P1.n2 P2.n2).mono ?_
  rintro e w' ⟨rfl, rfl⟩
  go_wp2
  go_ret
  exact ⟨rfl, rfl⟩

theorem implScale_ok (a b x : Nat) (w : World) (h1 : Calm .mul .f32 a x) (h2 : Calm .mul .f32 b x) :
    Calls Tryz.prog 109 #[.complex .f32 a b, .float .f32 x] w fun e w' => e = .returned (.complex .f32 (opB .mul .f32 a x) (opB .mul .f32 b x)) ∧ w = w' := by
  have r1 := h1.res
  have r2 := h2.res
  have q1 := h1.fdr
  have q2 := h2.fdr
  clear h1 h2
  go_enter Tryz.func109, Tryz.ntmps109
  go_wp2
  all_goals (go_ret; exact ⟨rfl, rfl⟩)

theorem stepMode_ok (m : M4) (hm : m.ok) (s : Nat × Nat) (x : Nat) (w : World) (h : StepOk m s x) :
    Calls Tryz.prog 95 #[.agg #[.complex .f32 m.pr m.pi, .complex .f32 m.gr m.gi], .complex .f32 s.1 s.2, .float .f32 x] w (TupP (.complex .f32 (stepS m s x).1 (stepS m s x).2) w) := by
  obtain ⟨n1, n2, n3, n4⟩ := hm.nums
  obtain ⟨s1, s2, p1, p2, c1, c2, c3, c4⟩ := h
  have r3 := c3.res
  have r4 := c4.res
  have q3 := c3.fdr
  have q4 := c4.fdr
  have P1 := Lib.hid p1
  have P2 := Lib.hid p2
  have C1 := Lib.hid c1
  have C2 := Lib.hid c2
  clear p1 p2 c1 c2 c3 c4
  go_enter Tryz.func95, Tryz.ntmps95
  go_wp2_with fail
  go_quiet (first
    | (go_at_call 111; exact quiet_eq (implMulSingle_ok _ _ _ _ _ s1 s2 n1 n2 P1.out P2.out))
    | (go_at_call 109; exact quiet_eq (implScale_ok _ _ _ _ C1.out C2.out)))
  go_wp2
  go_ret
  exact ⟨rfl, ((Nw.refl _).alloc _).draw _⟩

end Go.Proofs.YtiakcibeobbonaaGreat

/- The walks of stepStates, IsBody and RingBody, where nothing overflows: bit for bit.
   Conditions: those that each statement names. -/
namespace Go.Proofs.YtiakcibeobbonaaGreat
set_option linter.unusedSimpArgs false
set_option linter.unusedVariables false
open Go Go.RowKit

/-! ### the bits of ringing -/
def stepAll (ms : List M4) (ss : List (Nat × Nat)) (x : Nat) : List (Nat × Nat) := List.zipWith (fun m s => stepS m s x) ms ss
def outS (ss : List (Nat × Nat)) : Nat := ss.foldl (fun y s => opB .add .f32 y s.1) 0
def cellsC (ss : List (Nat × Nat)) : List Value := ss.map fun s => .complex .f32 s.1 s.2

/-- nothing overflows as the outputs are summed -/
def SumOk (ss : List (Nat × Nat)) : Prop := ∀ (k : Nat) s, ss[k]? = some s → Calm .add .f32 (outS (ss.take k)) s.1
theorem outS_take (ss : List (Nat × Nat)) (k : Nat) (s : Nat × Nat) (h : ss[k]? = some s) : outS (ss.take (k + 1)) = opB .add .f32 (outS (ss.take k)) s.1 := by
  have hk := (List.getElem?_eq_some_iff.1 h)
  obtain ⟨hk, he⟩ := hk
  rw [List.take_succ_eq_append_getElem hk, he]
  simp [outS, List.foldl_append]

/-- the states when k modes have been stepped -/
def mixed (ms : List M4) (ss : List (Nat × Nat)) (x k : Nat) : List (Nat × Nat) := (stepAll ms ss x).take k ++ ss.drop k

theorem own_mode {w : World} {base n k : Nat} {v : Value} {ms : List M4} (h : w.ownsRow base 93 2 v n (cellsM ms)) {m : M4} (hk : ms[k]? = some m) (hn : n = ms.length) :
    ∃ g cap, v = .slice (some ⟨g, 0, none⟩) n cap ∧ n ≤ cap ∧ cap ≤ maxLen ∧ g < w.heap.size ∧ w.cell? ⟨g, k * 2, none⟩ = some (.complex .f32 m.pr m.pi) ∧ w.cell? ⟨g, k * 2 + 1, none⟩ = some (.complex .f32 m.gr m.gi) := by
  have hkl := (List.getElem?_eq_some_iff.1 hk).1
  rcases h.2 with ⟨_, h0⟩ | ⟨g, cap, cur, rfl, hb, hg, hc, hm, hs, ht⟩
  · omega
  · have c1 := h.cellAt (2 * k) (by omega)
    have c2 := h.cellAt (2 * k + 1) (by omega)
    rw [(cellsM_at ms k m hk).1] at c1
    rw [(cellsM_at ms k m hk).2] at c2
    rw [Nat.mul_comm] at c1 c2
    exact ⟨g, cap, rfl, hc, hm, (h.lt g rfl).2, c1, c2⟩

theorem own_shape' {w : World} {base : Nat} {E : TypeId} {size : Nat} {v : Value} {n : Nat} {xs : List Value} (h : w.ownsRow base E size v n xs) : ∃ a c, v = .slice a n c := by
  rcases h.2 with ⟨rfl, rfl⟩ | ⟨g, cap, cur, rfl, _⟩
  · exact ⟨_, _, rfl⟩
  · exact ⟨_, _, rfl⟩

theorem mixed_at (ms : List M4) (ss : List (Nat × Nat)) (x k : Nat) (s : Nat × Nat) (hl : ms.length = ss.length) (h : ss[k]? = some s) : (cellsC (mixed ms ss x k))[k]? = some (.complex .f32 s.1 s.2) := by
  have hk := (List.getElem?_eq_some_iff.1 h).1
  have hlen : ((stepAll ms ss x).take k).length = k := by simp [stepAll]; omega
  unfold mixed cellsC
  rw [List.getElem?_map, List.getElem?_append_right (by omega), hlen, Nat.sub_self, List.getElem?_drop, Nat.add_zero, h]
  rfl

theorem _root_.Go.World.grownBy.trans' {a b c : World} {row : Option Nat} (h : a.grownBy b row) (k : b.grownBy c row) : a.grownBy c row :=
  ⟨k.os.trans h.os, k.tape.trans h.tape, k.output.trans h.output, Nat.le_trans h.size k.size, fun i hi hne => (k.block i (Nat.lt_of_lt_of_le hi h.size) hne).trans (h.block i hi hne)⟩

theorem stepAll_at (ms : List M4) (ss : List (Nat × Nat)) (x k : Nat) (m : M4) (s : Nat × Nat) (hm : ms[k]? = some m) (hs : ss[k]? = some s) : (stepAll ms ss x)[k]? = some (stepS m s x) := by
  unfold stepAll; rw [List.getElem?_zipWith, hm, hs]
theorem mixed_step (ms : List M4) (ss : List (Nat × Nat)) (x k : Nat) (m : M4) (s : Nat × Nat) (hm : ms[k]? = some m) (hs : ss[k]? = some s) :
    (cellsC (mixed ms ss x k)).set k (.complex .f32 (stepS m s x).1 (stepS m s x).2) = cellsC (mixed ms ss x (k + 1)) := by
  obtain ⟨hkm, -⟩ := List.getElem?_eq_some_iff.1 hm
  obtain ⟨hks, hse⟩ := List.getElem?_eq_some_iff.1 hs
  have hlen : ((stepAll ms ss x).take k).length = k := by simp [stepAll]; omega
  have hat := stepAll_at ms ss x k m s hm hs
  obtain ⟨hka, hae⟩ := List.getElem?_eq_some_iff.1 hat
  unfold mixed
  rw [List.take_succ_eq_append_getElem hka, hae, List.drop_eq_getElem_cons hks, hse]
  simp only [cellsC, List.map_append, List.map_cons, List.map_nil, List.append_assoc, List.singleton_append]
  rw [List.set_append_right _ _ (by simp [stepAll]; omega)]
  simp [stepAll, show k - min k (min ms.length ss.length) = 0 from by omega]
theorem mixed_after (ms : List M4) (ss : List (Nat × Nat)) (x k : Nat) (m : M4) (s : Nat × Nat) (hm : ms[k]? = some m) (hs : ss[k]? = some s) :
    (cellsC (mixed ms ss x (k + 1)))[k]? = some (.complex .f32 (stepS m s x).1 (stepS m s x).2) := by
  obtain ⟨hkm, -⟩ := List.getElem?_eq_some_iff.1 hm
  obtain ⟨hks, hse⟩ := List.getElem?_eq_some_iff.1 hs
  rw [← mixed_step ms ss x k m s hm hs, List.getElem?_set_self]
  simp [cellsC, mixed, stepAll]; omega
theorem mixed_full (ms : List M4) (ss : List (Nat × Nat)) (x : Nat) (hl : ms.length = ss.length) : mixed ms ss x ms.length = stepAll ms ss x := by
  unfold mixed
  rw [List.take_of_length_le (by simp [stepAll]; omega), List.drop_of_length_le (by omega), List.append_nil]

theorem grown_cell {w w' : World} {row : Option Nat} (h : w.grownBy w' row) {p : Addr} (hp : p.block < w.heap.size) (hne : some p.block ≠ row) : w'.cell? p = w.cell? p :=
  World.cell?_of_block (w := w) (h.block p.block hp hne)
theorem grown_frozen {w w' : World} {row : Option Nat} (h : w.grownBy w' row) {p : Addr} (hp : p.block < w.heap.size) (hne : some p.block ≠ row) : w'.frozen? p = w.frozen? p :=
  World.frozen?_of_block (w := w) (h.block p.block hp hne)

def StepsP (gs bs n : Nat) (ss' : List (Nat × Nat)) (w : World) (e : Ending) (w' : World) : Prop :=
  e = .returned (.float .f32 (outS ss')) ∧ w'.ownsRow bs 91 1 (.slice (some ⟨gs, 0, none⟩) n n) n (cellsC ss') ∧ w.grownBy w' (some gs)

def StepsI (ms : List M4) (ss : List (Nat × Nat)) (x gs bs n : Nat) (w : World) (y i : Value) (wr : World) : Prop :=
  ∃ k : Nat, k ≤ n ∧ i = .int .i64 (k : Int) ∧ y = .float .f32 (outS ((stepAll ms ss x).take k)) ∧ wr.ownsRow bs 91 1 (.slice (some ⟨gs, 0, none⟩) n n) n (cellsC (mixed ms ss x k)) ∧ w.grownBy wr (some gs)

set_option maxHeartbeats 1600000 in
theorem stepStates_ok (ms : List M4) (hms : ∀ m ∈ ms, m.ok) (ss : List (Nat × Nat)) (x n gs bs bm : Nat) (v : Value) (hn : ms.length = n) (hss : ss.length = n) (hn16 : n ≤ 16) (w : World)
    (hm : w.ownsRow bm 93 2 v n (cellsM ms)) (hs : w.ownsRow bs 91 1 (.slice (some ⟨gs, 0, none⟩) n n) n (cellsC ss)) (hne : v.ownBlock ≠ some gs)
    (hok : ∀ (k : Nat) m s, ms[k]? = some m → ss[k]? = some s → StepOk m s x) (hsum : SumOk (stepAll ms ss x)) :
    Calls Tryz.prog 61 #[v, .slice (some ⟨gs, 0, none⟩) n n, .float .f32 x] w (StepsP gs bs n (stepAll ms ss x) w) := by
  obtain ⟨va, vc, rfl⟩ := own_shape' hm
  have Hm := Lib.hid hm
  have Hs := Lib.hid hs
  have Hok := Lib.hid hok
  have Hsum := Lib.hid hsum
  have Hms := Lib.hid hms
  have Hn := Lib.hid hn
  have Hss := Lib.hid hss
  clear hm hs hok hsum hms hn hss
  go_enter Tryz.func61, Tryz.ntmps61
  go_wp2_with fail
  go_loopw [7, 12] (fun y i wr => StepsI ms ss x gs bs n w y i wr) (fun _ i _ => n - (intOf i).toNat)
  case atStart => exact ⟨0, by omega, rfl, rfl, by rw [show mixed ms ss x 0 = ss from by simp [mixed]]; exact Hs.out, World.grownBy.refl _ _⟩
  case round =>
    obtain ⟨k, hk, rfl, rfl, hown, hgr⟩ := hrel
    have Hown := Lib.hid hown
    have Hgr := Lib.hid hgr
    clear hown hgr
    by_cases hlt : k < n
    · obtain ⟨m, hmk⟩ : ∃ m, ms[k]? = some m := ⟨ms[k]'(by rw [Hn.out]; exact hlt), List.getElem?_eq_getElem _⟩
      obtain ⟨s, hsk⟩ : ∃ s, ss[k]? = some s := ⟨ss[k]'(by rw [Hss.out]; exact hlt), List.getElem?_eq_getElem _⟩
      have Hmr := Lib.hid (Hm.out.kept Hgr.out (.inr hne))
      obtain ⟨g, cap, hv, hcap, hmax, hgs, e1, e2⟩ := own_mode Hmr.out hmk Hn.out.symm
      cases hv
      have hgne : g ≠ gs := fun e => hne (by rw [e]; rfl)
      have hst : (cellsC (mixed ms ss x k))[k]? = some (.complex .f32 s.1 s.2) := mixed_at ms ss x k s (by rw [Hn.out, Hss.out]) hsk
      have e3 := Hown.out.cellAt k (by omega)
      rw [hst] at e3
      have e4 := Hown.out.frozenAt k
      have Hmk := Lib.hid hmk
      have Hsk := Lib.hid hsk
      clear hmk hsk hst
      have hmm : maxLen = 9223372036854775807 := rfl
      unfold maxLen at hmax
      clear hmm
      go_upto_region 5 with fail
      have Hmode := Lib.hid (HasMode.new wr 93 m.pr m.pi m.gr m.gi)
      have Hown4 := Lib.hid (Hown.out.alloc (.cells #[.complex .f32 m.pr m.pi, .complex .f32 m.gr m.gi] 93 (0, 0)))
      have Hgr4 := Lib.hid (Hgr.out.trans' (World.grownBy_alloc wr (.cells #[.complex .f32 m.pr m.pi, .complex .f32 m.gr m.gi] 93 (0, 0)) (some gs)))
      clear e1 e2 e3 e4
      go_cut [] (fun wx => wx.ownsRow bs 91 1 (.slice (some ⟨gs, 0, none⟩) n n) n (cellsC (mixed ms ss x (k + 1))) ∧ w.grownBy wx (some gs))
      case first =>
        obtain ⟨w4, hw4⟩ : ∃ w4, w4 = wr.alloc (.cells #[.complex .f32 m.pr m.pi, .complex .f32 m.gr m.gi] 93 (0, 0)) := ⟨_, rfl⟩
        rw [← hw4] at Hmode Hown4 Hgr4
        rw [← hw4]
        clear hw4
        obtain ⟨l0, l1, l2, l3, l4⟩ := Hmode.out
        have e3 := Hown4.out.cellAt k (by omega)
        rw [mixed_at ms ss x k s (by rw [Hn.out, Hss.out]) Hsk.out] at e3
        have e4 := Hown4.out.frozenAt k
        have hgs4 : gs < w4.heap.size := (Hown4.out.lt gs rfl).2
        have Hst := Lib.hid (Hok.out k m s Hmk.out Hsk.out)
        have Hmo := Lib.hid (Hms.out m (List.mem_of_getElem? Hmk.out))
        go_region_with (first
          | (go_at_call 95; refine (stepMode_ok m Hmo.out s x _ Hst.out).mono ?_; rintro e w5 ⟨rfl, n5⟩; have k5 := (n5.cell (p := ⟨gs, k, none⟩) hgs4).trans e3; have f5 := (n5.frozen (p := ⟨gs, k, none⟩) hgs4).trans e4))
        all_goals
          have hfin := And.intro ((own_nw (w := w4.drew) Hown4.out n5).stored k (.complex .f32 (stepS m s x).1 (stepS m s x).2)).1 ((Hgr4.out.trans' ⟨n5.os, n5.tape, n5.output, n5.size, fun q hq _ => n5.block q hq (by simp)⟩).trans' ((own_nw (w := w4.drew) Hown4.out n5).stored k (.complex .f32 (stepS m s x).1 (stepS m s x).2)).2)
          rw [mixed_step ms ss x k m s Hmk.out Hsk.out] at hfin
          have Hfin := Lib.hid hfin
          clear hfin
          go_wp2_with fail
          go_meet
          exact Hfin.out
      case rest =>
        obtain ⟨hown6, hgr6⟩ := hcut
        have e6 := hown6.cellAt k (by omega)
        rw [mixed_after ms ss x k m s Hmk.out Hsk.out] at e6
        have Hown6 := Lib.hid hown6
        have Hgr6 := Lib.hid hgr6
        clear hown6 hgr6
        have hsk := stepAll_at ms ss x k m s Hmk.out Hsk.out
        have hcalm := Hsum.out k _ hsk
        have r1 := hcalm.res
        have d1 := hcalm.fdr
        have Hout := Lib.hid (outS_take _ k _ hsk)
        clear hcalm hsk
        go_wp2_with fail
        go_roundw
        case rel => exact ⟨k + 1, by omega, by rw [show ((k + 1 : Nat) : Int) = (k : Int) + 1 from by omega], by rw [Hout.out], Hown6.out, Hgr6.out⟩
        case measure => simp only [intOf]; omega
    · obtain rfl : k = n := by omega
      have Hfull := Lib.hid (mixed_full ms ss x (Hn.out.trans Hss.out.symm))
      have Hlen := Lib.hid (show (stepAll ms ss x).length = k from by simp [stepAll, Hn.out, Hss.out])
      go_wp2_with fail
      go_ret
      refine ⟨by simp [List.take_of_length_le (Nat.le_of_eq Hlen.out)], ?_, Hgr.out⟩
      have := Hown.out
      rw [show mixed ms ss x k = stepAll ms ss x from by rw [← Hfull.out, Hn.out]] at this
      exact this

end Go.Proofs.YtiakcibeobbonaaGreat

/- The walks of IsBody, sampleAt and RingBody, where nothing overflows: bit for bit.
   Conditions: those that each statement names. -/
namespace Go.Proofs.YtiakcibeobbonaaGreat
set_option linter.unusedSimpArgs false
set_option linter.unusedVariables false
open Go Go.RowKit

def ValI (n : Nat) (w : World) (i : Value) (wr : World) : Prop := ∃ k : Nat, k ≤ n ∧ i = .int .i64 (k : Int) ∧ Nw w wr

theorem implIsBody_ok (ms : List M4) (hms : ∀ m ∈ ms, m.ok) (n bm : Nat) (v : Value) (hn : ms.length = n) (hn16 : n ≤ 16) (w : World)
    (hm : w.ownsRow bm 93 2 v n (cellsM ms)) :
    Calls Tryz.prog 78 #[.agg #[v]] w (TestP true w) := by
  obtain ⟨va, vc, rfl⟩ := own_shape' hm
  have Hm := Lib.hid hm
  have Hms := Lib.hid hms
  have Hn := Lib.hid hn
  have Hn0 := Lib.hid ((Nw.refl w).alloc (.cells #[.slice va n vc] 65 (0, 0)))
  clear hm hms hn
  go_enter Tryz.func78, Tryz.ntmps78
  go_wp2_with fail
  go_loopw [12] (fun i wr => ValI n w i wr) (fun i _ => n - (intOf i).toNat)
  case atStart => exact ⟨0, by omega, rfl, Hn0.out⟩
  case round =>
    obtain ⟨k, hk, rfl, hnw⟩ := hrel
    have Hnw := Lib.hid hnw
    clear hnw
    by_cases hlt : k < n
    · obtain ⟨m, hmk⟩ : ∃ m, ms[k]? = some m := ⟨ms[k]'(by rw [Hn.out]; exact hlt), List.getElem?_eq_getElem _⟩
      have Hmr := Lib.hid (own_nw Hm.out Hnw.out)
      obtain ⟨g, cap, hv, hcap, hmax, hgs, e1, e2⟩ := own_mode Hmr.out hmk Hn.out.symm
      cases hv
      have Hmo := Lib.hid (Hms.out m (List.mem_of_getElem? hmk))
      unfold maxLen at hmax
      have Hnw4 := Lib.hid (Hnw.out.alloc (.cells #[.complex .f32 m.pr m.pi, .complex .f32 m.gr m.gi] 93 (0, 0)))
      clear hmk
      go_wp2_with fail
      refine (implIsMode_valid _ _ _ _ _ Hmo.out).mono ?_
      rintro e w5 ⟨rfl, n5⟩
      have Hnw5 := Lib.hid (Hnw4.out.trans n5)
      clear n5 e1 e2
      go_wp2_with fail
      go_roundw
      case rel => exact ⟨k + 1, by omega, by rw [show ((k + 1 : Nat) : Int) = (k : Int) + 1 from by omega], Hnw5.out⟩
      case measure => simp only [intOf]; omega
    · go_wp2_with fail
      go_ret
      exact ⟨rfl, Hnw.out⟩

theorem own_sample {w : World} {base n k : Nat} {v : Value} {xs : List Nat} (h : w.ownsRow base 23 1 v n (cellsS xs)) {x : Nat} (hk : xs[k]? = some x) (hn : n = xs.length) :
    ∃ g cap, v = .slice (some ⟨g, 0, none⟩) n cap ∧ n ≤ cap ∧ cap ≤ maxLen ∧ g < w.heap.size ∧ w.cell? ⟨g, k, none⟩ = some (.float .f32 x) := by
  have hkl := (List.getElem?_eq_some_iff.1 hk).1
  rcases h.2 with ⟨_, h0⟩ | ⟨g, cap, cur, rfl, hb, hg, hc, hm, hs, ht⟩
  · omega
  · have c1 := h.cellAt k (by omega)
    rw [show (cellsS xs)[k]? = some (.float .f32 x) from by simp [cellsS, hk]] at c1
    exact ⟨g, cap, rfl, hc, hm, (h.lt g rfl).2, c1⟩

def inputOf (xs : List Nat) (i : Nat) : Nat := xs.getD i 0
theorem sampleAt_any (xs : List Nat) (n bi i : Nat) (v : Value) (hn : xs.length = n) (hi : i ≤ 1048576) (hn2 : n ≤ 1048576) (w : World) (h : w.ownsRow bi 23 1 v n (cellsS xs)) :
    Calls Tryz.prog 62 #[v, .int .i64 (i : Int)] w fun e w' => e = .returned (.float .f32 (inputOf xs i)) ∧ w = w' := by
  obtain ⟨va, vc, rfl⟩ := own_shape' h
  by_cases hlt : i < n
  · obtain ⟨x, hx⟩ : ∃ x, xs[i]? = some x := ⟨xs[i]'(by omega), List.getElem?_eq_getElem _⟩
    obtain ⟨g, cap, hv, hcap, hmax, hgs, e1⟩ := own_sample h hx hn.symm
    cases hv
    have Hx := Lib.hid (show inputOf xs i = x from by unfold inputOf; rw [List.getD_eq_getElem?_getD, hx]; rfl)
    unfold maxLen at hmax
    clear h hx hn
    go_enter Tryz.func62, Tryz.ntmps62
    go_wp2
    go_ret
    exact ⟨by rw [Hx.out]; rfl, rfl⟩
  · have Hx := Lib.hid (show inputOf xs i = 0 from by unfold inputOf; rw [List.getD_eq_getElem?_getD, List.getElem?_eq_none (by omega)]; rfl)
    clear h hn
    go_enter Tryz.func62, Tryz.ntmps62
    go_wp2
    go_ret
    exact ⟨by rw [Hx.out]; rfl, rfl⟩

/-! ### ringing -/
def stAt (ms : List M4) (x : Nat → Nat) : Nat → List (Nat × Nat)
  | 0 => ms.map fun _ => (0, 0)
  | i + 1 => stepAll ms (stAt ms x i) (x i)
theorem stAt_len (ms : List M4) (x : Nat → Nat) : ∀ i, (stAt ms x i).length = ms.length
  | 0 => by simp [stAt]
  | i + 1 => by simp [stAt, stepAll, stAt_len ms x i]
/-- nothing overflows in the first n steps -/
def RingOk (ms : List M4) (x : Nat → Nat) (n : Nat) : Prop :=
  ∀ i, i < n → (∀ (k : Nat) m s, ms[k]? = some m → (stAt ms x i)[k]? = some s → StepOk m s (x i)) ∧ SumOk (stAt ms x (i + 1))
def ringS (ms : List M4) (x : Nat → Nat) (n : Nat) : List Nat := (List.range n).map fun i => outS (stAt ms x (i + 1))

def RingP (B : Nat) (outs : List Nat) (w : World) (e : Ending) (w' : World) : Prop :=
  ∃ v : Value, e = .returned (.tuple #[v, .bool true]) ∧ w'.ownsRow B 23 1 v outs.length (cellsS outs) ∧ Nw w w'

theorem isSteps_ok (n : Nat) (hn : n ≤ 2000) (w : World) :
    Calls Tryz.prog 50 #[.int .i64 (n : Int)] w fun e w' => e = .returned (.bool true) ∧ w = w' := by
  go_enter Tryz.func50, Tryz.ntmps50
  go_wp2
  go_ret
  exact ⟨by simp; omega, rfl⟩

theorem info_c64 : (Tryz.prog.info? 91).map (fun i => (i.zero, i.size, i.bytes)) = some (some (.complex .f32 0 0), 1, 8) := by kernel_rfl

/-- the outputs when k steps are done -/
def outsAt (ms : List M4) (x : Nat → Nat) (n k : Nat) : List Nat := (ringS ms x n).take k ++ List.replicate (n - k) 0
theorem outsAt_zero (ms : List M4) (x : Nat → Nat) (n : Nat) : outsAt ms x n 0 = List.replicate n 0 := by simp [outsAt]
theorem outsAt_full (ms : List M4) (x : Nat → Nat) (n : Nat) : outsAt ms x n n = ringS ms x n := by
  unfold outsAt; rw [List.take_of_length_le (by simp [ringS])]; simp
theorem outsAt_set (ms : List M4) (x : Nat → Nat) (n k : Nat) (h : k < n) : (cellsS (outsAt ms x n k)).set k (.float .f32 (outS (stAt ms x (k + 1)))) = cellsS (outsAt ms x n (k + 1)) := by
  have hk : k < (ringS ms x n).length := by simpa [ringS] using h
  have hv : (ringS ms x n)[k] = outS (stAt ms x (k + 1)) := by simp [ringS]
  unfold outsAt
  rw [List.take_succ_eq_append_getElem hk, hv, show n - k = (n - (k + 1)) + 1 from by omega, List.replicate_succ]
  simp only [cellsS, List.map_append, List.map_cons, List.map_nil, List.append_assoc, List.singleton_append]
  rw [List.set_append_right _ _ (by simp [ringS]; omega)]
  simp [ringS, show k - min k n = 0 from by omega]

theorem outs_cell (ms : List M4) (x : Nat → Nat) (n k : Nat) (h : k < n) : (cellsS (outsAt ms x n k))[k]? = some (.float .f32 0) := by
  unfold outsAt cellsS
  rw [List.getElem?_map, List.getElem?_append_right (by simp [ringS]; omega)]
  simp [ringS, List.getElem?_replicate]
  omega

theorem nw_grown {w wr w' w6 : World} {g : Nat} (h : Nw w wr) (hd : Nw wr w') (hg : w'.grownBy w6 (some g)) (hge : w.heap.size ≤ g) : Nw w w6 := by
  have h2 := h.trans hd
  exact ⟨hg.os.trans h2.os, hg.tape.trans h2.tape, hg.output.trans h2.output, Nat.le_trans h2.size hg.size, fun k hk hne => (hg.block k (Nat.lt_of_lt_of_le hk h2.size) (fun e => by cases e; omega)).trans (h2.block k hk hne)⟩

def RingI (B bb gs gu n q : Nat) (ms : List M4) (x : Nat → Nat) (bv : Value) (w : World) (i : Value) (wr : World) : Prop :=
  ∃ k : Nat, k ≤ n ∧ i = .int .i64 (k : Int) ∧ wr.ownsRow B 91 1 (.slice (some ⟨gs, 0, none⟩) q q) q (cellsC (stAt ms x k)) ∧
    wr.ownsRow B 23 1 (.slice (some ⟨gu, 0, none⟩) n n) n (cellsS (outsAt ms x n k)) ∧ Has1 wr bb bv ∧ Nw w wr

/-- .. and the row is no nil slice -/
def RingP2 (B : Nat) (outs : List Nat) (n : Nat) (w : World) (e : Ending) (w' : World) : Prop :=
  ∃ g : Nat, e = .returned (.tuple #[.slice (some ⟨g, 0, none⟩) n n, .bool true]) ∧ w'.ownsRow B 23 1 (.slice (some ⟨g, 0, none⟩) n n) n (cellsS outs) ∧ Nw w w'

end Go.Proofs.YtiakcibeobbonaaGreat

/- What a proof of a law over one slice of bytes begins with: the argument, opened.
   Conditions: those that each statement names. -/
namespace Go.Proofs.YtiakcibeobbonaaGreat
set_option linter.unusedSimpArgs false
set_option linter.unusedVariables false
open Go Go.ChangeShapes Go.WideShapes Go.ChangeAt Go.RowKit

theorem own : ownKnob Tryz.prog.godebug = none := by kernel_rfl
theorem laidOut : laidOutB Tryz.prog = true := by kernel_rfl

/-- WHAT THE WALK IS TOLD OF A SLICE OF INTEGERS THAT CAME IN: it is nil; or it leads to a row of 'cap' cells, the numbers 'zs' (the first 'len' are its elements, the rest its spare room), each fitting its kind. -/
def IsRow (k : IntKind) (w : World) (a : Option Addr) (len cap : Nat) (zs : List Int) : Prop :=
  (a = none ∧ len = 0 ∧ cap = 0 ∧ zs = []) ∨
  ∃ x, a = some x ∧ len ≤ cap ∧ cap ≤ maxLen ∧ zs.length = cap ∧ (∀ i, i < zs.length → w.cell? (x.add i) = some (.int k (zs.getD i 0))) ∧ ∀ n ∈ zs, (Lit.int k n).wf = true


theorem cell_lt {w : World} {p : Addr} {v : Value} (h : w.cell? p = some v) : p.block < w.heap.size ∧ p.spot = none := by
  unfold World.cell? at h
  split at h
  · rename_i c _ _ hb
    have hs : p.spot.isSome = false := by
      cases hp : p.spot.isSome
      · rfl
      · rw [hp] at h; simp at h
    refine ⟨?_, by simpa using hs⟩
    rcases Nat.lt_or_ge p.block w.heap.size with g | g
    · exact g
    · rw [Array.getElem?_eq_none g] at hb; cases hb
  · cases h

theorem bys_of_row {w : World} {a : Option Addr} {len cap : Nat} {zs : List Int} (h : IsRow .u8 w a len cap zs) (hl : len ≤ 140737488351232) : Bys w.heap.size a len w := by
  refine ⟨hl, ?_⟩
  rcases h with ⟨rfl, rfl, _, _⟩ | ⟨x, rfl, hlc, hcm, hz, hcell, hwf⟩
  · exact .inl rfl
  · by_cases h0 : len = 0
    · exact .inl h0
    · right
      have c0 := hcell 0 (by omega)
      have e0 : x.add 0 = x := by unfold Addr.add; rw [if_pos rfl]
      rw [e0] at c0
      obtain ⟨hb, hs⟩ := cell_lt c0
      refine ⟨x.block, x.off, by cases x; simp at hs; subst hs; rfl, hb, fun k hk => ?_⟩
      have hc := hcell k (by omega)
      have hmem : zs.getD k 0 ∈ zs := by
        rw [List.getD_eq_getElem?_getD, List.getElem?_eq_getElem (by omega), Option.getD_some]
        exact List.getElem_mem _
      have hw := hwf _ hmem
      have hadd : x.add k = ⟨x.block, x.off + k, none⟩ := by
        unfold Addr.add; split
        · rename_i h0; subst h0; cases x; simp at hs; subst hs; rfl
        · rfl
      rw [hadd] at hc
      generalize zs.getD k 0 = z at hw hc
      have hz2 : 0 ≤ z ∧ z ≤ 255 := by simpa [Lit.wf, IntKind.min, IntKind.max, IntKind.signed, IntKind.bits, Int.le_sub_one_iff] using hw
      exact ⟨z.toNat, by omega, by rw [hc]; congr 2; omega⟩

end Go.Proofs.YtiakcibeobbonaaGreat

/- An argument that is a slice of samples, opened; the walks of sameFloat, toFloat32S and eqFloat32S.
   Conditions: those that each statement names. -/
namespace Go.Proofs.YtiakcibeobbonaaGreat
set_option linter.unusedSimpArgs false
set_option linter.unusedVariables false
open Go Go.ChangeShapes Go.WideShapes Go.ChangeAt Go.RowKit

theorem trod_float {H : Type} {enc : TypeId × Value → H} {P : Program} {w : World} {base : Nat} {spare : Nat → Bool} {held : Bool} {fuel : Nat} {t : TypeId} {cs : List Value} {x : DataW H × List MemPlace} {k : FloatKind}
    (ht : P.underlying t = some (.float k)) (h : DataW.trod enc P w base spare held fuel t cs = some x) : ∃ n, cs = [.float k n] ∧ (Lit.float k n).wf = true := by
  cases fuel with
  | zero => simp [DataW.trod] at h
  | succ n =>
    unfold DataW.trod at h
    rw [ht] at h
    split at h <;> simp_all
theorem open_floats {H : Type} {enc : TypeId × Value → H} {P : Program} {w : World} {base : Nat} {spare : Nat → Bool} {held : Bool} {fuel : Nat} {t e : TypeId} {cs : List Value} {x : DataW H × List MemPlace} {k : FloatKind}
    (ht : P.underlying t = some (.slice e)) (he : P.underlying e = some (.float k)) (hc : P.cellsOf e = 1) (h : DataW.trod enc P w base spare held fuel t cs = some x) :
    cs = [.slice none 0 0] ∨ ∃ (a : Addr) (len cap : Nat), cs = [.slice (some a) len cap] ∧ len ≤ cap ∧ cap ≤ maxLen ∧ ∀ i, i < len → ∃ b, w.cell? (a.add i) = some (.float k b) ∧ (Lit.float k b).wf = true := by
  rcases DataW.trod_slice ht h with ⟨h0, _⟩ | ⟨a, len, cap, elems, rest, n, _, rfl, rfl, hb, hl, hm, hlen, hel, hsp, hns⟩
  · exact .inl h0
  · refine .inr ⟨a, len, cap, rfl, hl, hm, fun i hi => ?_⟩
    have h1 := hel i hi
    rw [List.getElem?_eq_getElem (by omega), hc, Nat.mul_one, Option.bind_eq_some_iff] at h1
    obtain ⟨cs', hcs, hy'⟩ := h1
    obtain ⟨m, rfl, hw⟩ := trod_float he hy'
    exact ⟨m, cell_of_cells?_one hcs, hw⟩

/-- WHAT THE WALK IS TOLD OF A SLICE OF SAMPLES: its numbers, below the block B -/
def Fls (B : Nat) (a : Option Addr) (len : Nat) (zs : List Nat) (w : World) : Prop :=
  zs.length = len ∧ (∀ z ∈ zs, z < 2 ^ 32) ∧ (len = 0 ∨ ∃ b o, a = some ⟨b, o, none⟩ ∧ b < B ∧ ∀ (k : Nat) x, zs[k]? = some x → w.cell? ⟨b, o + k, none⟩ = some (.float .f32 x))
theorem Fls.nw {B : Nat} {a : Option Addr} {len : Nat} {zs : List Nat} {w w' : World} (h : Fls B a len zs w) (hB : B ≤ w.heap.size) (hn : Nw w w') : Fls B a len zs w' := by
  obtain ⟨h1, h2, h3⟩ := h
  refine ⟨h1, h2, ?_⟩
  rcases h3 with h0 | ⟨b, o, rfl, hb, hc⟩
  · exact .inl h0
  · exact .inr ⟨b, o, rfl, hb, fun k x hx => by rw [hn.cell (by show b < w.heap.size; omega)]; exact hc k x hx⟩
theorem Fls.at {B : Nat} {a : Option Addr} {len : Nat} {zs : List Nat} {w : World} (h : Fls B a len zs w) {k x : Nat} (hx : zs[k]? = some x) :
    ∃ b o, a = some ⟨b, o, none⟩ ∧ b < B ∧ w.cell? ⟨b, o + k, none⟩ = some (.float .f32 x) := by
  obtain ⟨h1, h2, h3⟩ := h
  have := (List.getElem?_eq_some_iff.1 hx).1
  rcases h3 with h0 | ⟨b, o, rfl, hb, hc⟩
  · omega
  · exact ⟨b, o, rfl, hb, hc k x hx⟩
theorem fls_of {w : World} {a : Addr} {len : Nat} (h : ∀ i, i < len → ∃ b, w.cell? (a.add i) = some (.float .f32 b) ∧ (Lit.float .f32 b).wf = true) : ∃ zs, Fls w.heap.size (some a) len zs w := by
  have hz : ∀ n, n ≤ len → ∃ zs : List Nat, zs.length = n ∧ ∀ (k : Nat) x, zs[k]? = some x → w.cell? (a.add k) = some (.float .f32 x) ∧ x < 2 ^ 32 := by
    intro n
    induction n with
    | zero => intro _; exact ⟨[], rfl, fun k x hx => by simp at hx⟩
    | succ n ih =>
      intro hn
      obtain ⟨zs, hl, hk⟩ := ih (by omega)
      obtain ⟨b, hb, hw⟩ := h n (by omega)
      refine ⟨zs ++ [b], by simp [hl], fun k x hx => ?_⟩
      by_cases hkn : k < n
      · exact hk k x (by rwa [List.getElem?_append_left (by omega)] at hx)
      · rw [List.getElem?_append_right (by omega)] at hx
        have hk0 : k - zs.length = 0 := by
          have := (List.getElem?_eq_some_iff.1 hx).1
          simp at this; omega
        rw [hk0] at hx
        simp at hx
        subst hx
        obtain rfl : k = n := by omega
        exact ⟨hb, by simpa [Lit.wf] using hw⟩
  obtain ⟨zs, hl, hk⟩ := hz len (Nat.le_refl _)
  refine ⟨zs, hl, fun z hz => ?_, ?_⟩
  · obtain ⟨i, hi⟩ := List.getElem?_of_mem hz
    exact (hk i z hi).2
  · by_cases h0 : len = 0
    · exact .inl h0
    · right
      obtain ⟨b, hb, -⟩ := h 0 (by omega)
      have e0 : a.add 0 = a := by unfold Addr.add; rw [if_pos rfl]
      rw [e0] at hb
      obtain ⟨h1, h2⟩ := cell_lt hb
      refine ⟨a.block, a.off, by cases a; simp at h2; subst h2; rfl, h1, fun k x hx => ?_⟩
      have := (hk k x hx).1
      have hadd : a.add k = ⟨a.block, a.off + k, none⟩ := by
        unfold Addr.add; split
        · rename_i h0; subst h0; cases a; simp at h2; subst h2; rfl
        · rfl
      rwa [hadd] at this

/-! ### sameFloat -/
theorem one_quoF (a : Nat) (h : nan64 a = false) : ∃ r, floatBits .quo .f64 4607182418800017408 a = some r := by
  have h1 : Ieee.double.read 4607182418800017408 = .number false 4503599627370496 (-52) := by decide
  have h : (Ieee.double.read a).isNaN = false := h
  show ∃ r, Ieee.double.div 4607182418800017408 a = some r
  unfold Ieee.Format.div
  rw [h1]
  cases hd : Ieee.double.read a with
  | number s m p => by_cases hm : m = 0 <;> simp [Ieee.Datum.quotient, hm]
  | infinity s => exact ⟨_, rfl⟩
  | nan s f => rw [hd] at h; simp [Ieee.Datum.isNaN] at h

def fillF (zs : List Nat) (n k : Nat) : List Nat := zs.take k ++ List.replicate (n - k) 0
theorem fillF_zero (zs : List Nat) (n : Nat) : fillF zs n 0 = List.replicate n 0 := by simp [fillF]
theorem fillF_full (zs : List Nat) (n : Nat) (h : zs.length = n) : fillF zs n n = zs := by subst h; simp [fillF]
theorem fillF_set (zs : List Nat) (n k x : Nat) (hx : zs[k]? = some x) (hl : zs.length = n) : (cellsS (fillF zs n k)).set k (.float .f32 x) = cellsS (fillF zs n (k + 1)) := by
  obtain ⟨h, he⟩ := List.getElem?_eq_some_iff.1 hx
  unfold fillF
  rw [List.take_succ_eq_append_getElem h, he, show n - k = (n - (k + 1)) + 1 from by omega, List.replicate_succ]
  simp only [cellsS, List.map_append, List.map_cons, List.map_nil, List.append_assoc, List.singleton_append]
  rw [List.set_append_right _ _ (by simp; omega)]
  simp [Nat.min_eq_left (Nat.le_of_lt h)]
theorem fillF_cell (zs : List Nat) (n k : Nat) (h : k < n) (hl : zs.length = n) : (cellsS (fillF zs n k))[k]? = some (.float .f32 0) := by
  unfold fillF cellsS
  rw [List.getElem?_map, List.getElem?_append_right (by simp; omega)]
  simp [List.getElem?_replicate]
  omega

def CopyI (B g n : Nat) (zs : List Nat) (w : World) (i : Value) (wr : World) : Prop :=
  ∃ k : Nat, k ≤ n ∧ i = .int .i64 (k : Int) ∧ wr.ownsRow B 23 1 (.slice (some ⟨g, 0, none⟩) n n) n (cellsS (fillF zs n k)) ∧ Nw w wr
def CopyP (zs : List Nat) (n : Nat) (w : World) (e : Ending) (w' : World) : Prop :=
  ∃ g : Nat, e = .returned (.slice (some ⟨g, 0, none⟩) n n) ∧ w'.ownsRow w.heap.size 23 1 (.slice (some ⟨g, 0, none⟩) n n) n (cellsS zs) ∧ Nw w w'

theorem widen_sameF (x : Nat) (w1 w2 : World) : sameF (fcv w1 .f32 x .f64) (fcv w2 .f32 x .f64) = true :=
  sameF_fab (by rw [fab_wide, fab_wide])
def CountI (n : Nat) (w : World) (i : Value) (wr : World) : Prop := ∃ k : Nat, k ≤ n ∧ i = .int .i64 (k : Int) ∧ Nw w wr

end Go.Proofs.YtiakcibeobbonaaGreat

/- Decimal texts: the digits of an integer, and the walk of the model's l1Number.
   Conditions: those that each statement names. -/
namespace Go.Proofs.YtiakcibeobbonaaGreat
set_option linter.unusedSimpArgs false
set_option linter.unusedVariables false
open Go Go.RowKit

def dgs (n : Nat) : List Int := if h : n < 10 then [48 + (n : Int)] else dgs (n / 10) ++ [48 + ((n % 10 : Nat) : Int)]
termination_by n
decreasing_by omega
theorem dgs_small {n : Nat} (h : n < 10) : dgs n = [48 + (n : Int)] := by rw [dgs]; simp [h]
theorem dgs_big {n : Nat} (h : ¬ n < 10) : dgs n = dgs (n / 10) ++ [48 + ((n % 10 : Nat) : Int)] := by rw [dgs]; simp [h]
def dgO (n : Nat) : List Int := if n = 0 then [] else dgs n
theorem dg_step {n : Nat} : dgs n = dgO (n / 10) ++ [48 + ((n % 10 : Nat) : Int)] := by
  by_cases h : n < 10
  · rw [dgs_small h]
    unfold dgO
    rw [if_pos (by omega)]
    simp
    omega
  · rw [dgs_big h]
    unfold dgO
    rw [if_neg (by omega)]
theorem dgs_len : ∀ (j n : Nat), n < 10 ^ (j + 1) → (dgs n).length ≤ j + 1
  | 0, n, h => by rw [dgs_small (by simpa using h)]; simp
  | j + 1, n, h => by
    by_cases h10 : n < 10
    · rw [dgs_small h10]; simp
    · rw [dgs_big h10, List.length_append]
      have := dgs_len j (n / 10) (by rw [Nat.pow_succ] at h; omega)
      simp; omega
theorem dgs_head (n : Nat) : ∃ d rest, dgs n = d :: rest ∧ 48 ≤ d ∧ d ≤ 57 := by
  induction n using Nat.strongRecOn with
  | ind n ih =>
    by_cases h : n < 10
    · exact ⟨_, _, dgs_small h, by omega, by omega⟩
    · obtain ⟨d, r, e, h1, h2⟩ := ih (n / 10) (by omega)
      exact ⟨d, r ++ [48 + ((n % 10 : Nat) : Int)], by rw [dgs_big h, e]; rfl, h1, h2⟩
theorem str_cons (d : Int) (xs : List Int) : strOfNums [d] ++ strOfNums xs = strOfNums (d :: xs) := by
  apply ByteArray.ext
  simp [strOfNums]
theorem str_app (xs ys : List Int) : strOfNums xs ++ strOfNums ys = strOfNums (xs ++ ys) := by
  apply ByteArray.ext
  simp [strOfNums]
def numL (z : Int) : List Int := if z < 0 then 45 :: dgs z.natAbs else dgs z.natAbs
def StrP (xs : List Int) (w : World) (e : Ending) (w' : World) : Prop := e = .returned (.string (strOfNums xs)) ∧ Nw w w'
def NumI (n : Nat) (w : World) (v s : Value) (wr : World) : Prop :=
  ∃ (k : Nat) (cur : List Int), k ≤ n ∧ v = .int .i64 (k : Int) ∧ s = .string (strOfNums cur) ∧ dgs n = dgO k ++ cur ∧ Nw w wr

theorem conv_digit (d : Int) (w : World) : (convert 22 9 (.slice (some ⟨w.heap.size, 0, none⟩) 1 1)).run Tryz.prog (w.alloc (.cells #[.int .u8 d] 5 (0, 0))) = .ok (.string (strOfNums [d])) (w.alloc (.cells #[.int .u8 d] 5 (0, 0))) :=
  run_convert_bytes_arg _ 22 5 Tryz.underlying22 Tryz.underlying5 w.heap.size 0 1 1 [d] rfl (fun i hi => by
    obtain rfl : i = 0 := by omega
    simp) 9 Tryz.underlying9

set_option maxRecDepth 100000 in
theorem l1Number_ok (n : Nat) (hn : n < 1000000000000000000) (w : World) :
    Calls Tryz.prog 38 #[.int .i64 (n : Int)] w (StrP (dgs n) w) := by
  have h0 : ¬ ((n : Int) < 0) := by omega
  have hc := conv_digit
  have hlen := dgs_len 17 n (by omega)
  have Hlen := Lib.hid hlen
  clear hlen
  go_enter Tryz.func38, Tryz.ntmps38
  go_wp2_with fail
  go_loopw [0, 3] (fun v s wr => NumI n w v s wr) (fun v _ _ => (intOf v).toNat)
  case atStart => exact ⟨n / 10, _, by omega, by rw [show ((n / 10 : Nat) : Int) = (n : Int) / 10 from by omega], rfl, by rw [show (n : Int) % 10 = ((n % 10 : Nat) : Int) from by omega]; exact dg_step, (Nw.refl w).alloc _⟩
  case round =>
    obtain ⟨k, cur, hk, rfl, rfl, hd, hN⟩ := hrel
    have Nr := Lib.hid hN
    have Hd := Lib.hid hd
    clear hN hd
    by_cases hlt : 0 < k
    · have hcl : cur.length ≤ 18 := by have h := Hlen.out; rw [Hd.out, List.length_append] at h; omega
      have hs1 : (strOfNums [48 + (k : Int) % 10]).size = 1 := strOfNums_size _
      have hs2 : (strOfNums cur).size ≤ 18 := by rw [strOfNums_size]; exact hcl
      have hadd : ∀ w, (Op.stringOp .add (strOfNums [48 + (k : Int) % 10]) (strOfNums cur)).run Tryz.prog w = .ok (.string (strOfNums ((48 + (k : Int) % 10) :: cur))) w := fun w => by
        rw [run_string_add _ _ _ (by omega) (by omega), str_cons]
      clear hs1 hs2
      go_wp2_with fail
      go_roundw
      case rel => exact ⟨k / 10, _, by omega, by rw [show ((k / 10 : Nat) : Int) = (k : Int) / 10 from by omega], rfl, by
          rw [Hd.out]
          have e : dgO k = dgs k := by unfold dgO; rw [if_neg (by omega)]
          rw [e, dg_step (n := k), show ((k % 10 : Nat) : Int) = (k : Int) % 10 from by omega]
          simp, Nr.out.alloc _⟩
      case measure => simp only [intOf]; omega
    · obtain rfl : k = 0 := by omega
      go_wp2_with fail
      go_ret
      exact ⟨by rw [show dgs n = cur from by rw [Hd.out]; rfl]; rfl, Nr.out⟩

end Go.Proofs.YtiakcibeobbonaaGreat

/- Plain facts: rounding is monotone, and what is written of a number depends on its value alone. No program stands in it.
   Conditions: those that each statement names. -/
namespace Go.Proofs.YtiakcibeobbonaaGreat
set_option linter.unusedSimpArgs false
set_option linter.unusedVariables false
open Go
open Ieee
namespace Flo

/-- a tie goes to the even one -/
theorem cut_tie (neg : Bool) (n drop : Nat) (h : 2 * (Toward.even.cut neg n drop * 2 ^ drop) = 2 * n + 2 ^ drop ∨ 2 * n = 2 * (Toward.even.cut neg n drop * 2 ^ drop) + 2 ^ drop) :
    Toward.even.cut neg n drop % 2 = 0 := by
  revert h
  unfold Toward.cut
  simp only [Nat.shiftLeft_eq, Nat.one_mul]
  by_cases hd : drop ≤ n.log2 + 2
  · rw [Nat.min_eq_left hd]
    generalize hg : 2 ^ drop = gap
    have hpos : 0 < gap := by rw [← hg]; exact Nat.two_pow_pos _
    have hdm := Nat.div_add_mod n gap
    have hlt := Nat.mod_lt n hpos
    generalize n / gap = low at *
    generalize n % gap = rest at *
    rw [Nat.add_mul]
    have hc : low * gap = gap * low := Nat.mul_comm _ _
    rw [hc]
    by_cases h1 : gap < 2 * rest
    · simp only [h1, decide_true, Bool.true_or, Bool.toNat_true, Nat.one_mul]; omega
    · by_cases h2 : (gap == 2 * rest && low % 2 == 1) = true
      · simp only [h1, h2, decide_false, Bool.false_or, Bool.toNat_true, Nat.one_mul]
        simp at h2; omega
      · simp only [Bool.not_eq_true] at h2
        simp only [h1, h2, decide_false, Bool.false_or, Bool.toNat_false, Nat.zero_mul]
        simp at h2
        omega
  · have hd' : n.log2 + 2 ≤ drop := by omega
    rw [Nat.min_eq_right hd']
    have hn : n < 2 ^ (n.log2 + 1) := Nat.lt_log2_self
    have hn2 : 2 * n < 2 ^ (n.log2 + 2) := by rw [Nat.pow_succ]; omega
    have hz : n / 2 ^ (n.log2 + 2) = 0 := Nat.div_eq_of_lt (by omega)
    have hm : n % 2 ^ (n.log2 + 2) = n := Nat.mod_eq_of_lt (by omega)
    rw [hz, hm]
    have h1 : ¬ 2 ^ (n.log2 + 2) < 2 * n := by omega
    have h2 : (2 ^ (n.log2 + 2) == 2 * n && 0 % 2 == 1) = false := by simp
    simp only [h1, h2, decide_false, Bool.false_or, Bool.toNat_false, Nat.add_zero]
    intro _; trivial

theorem kept_tie (f : Format) (neg : Bool) (m : Nat) (p : Int)
    (h : 2 * ((keptOf f neg m p : Rat) * pw (lastOf f m p)) = 2 * ((m : Rat) * pw p) + pw (lastOf f m p) ∨ 2 * ((m : Rat) * pw p) = 2 * ((keptOf f neg m p : Rat) * pw (lastOf f m p)) + pw (lastOf f m p)) :
    keptOf f neg m p % 2 = 0 := by
  unfold keptOf at *
  generalize lastOf f m p = l at *
  apply cut_tie
  generalize Toward.even.cut neg (m <<< (p - l).toNat) (l - p).toNat = k at *
  rw [Nat.shiftLeft_eq]
  generalize hs1 : (p - l).toNat = s1 at *
  generalize hs2 : (l - p).toNat = s2 at *
  have e1 : pw p = pw s1 * pw (l - s2) := by rw [← pw_add]; congr 1; omega
  have e2 : pw l = pw s2 * pw (l - s2) := by rw [← pw_add]; congr 1; omega
  rw [e1, e2] at h
  have hp := pw_pos (l - s2)
  generalize pw (l - s2) = t at *
  have key : ∀ a b : Rat, a * t = b * t → a = b := fun a b h => by
    have h1 : a * t ≤ b * t := by grind
    have h2 : b * t ≤ a * t := by grind
    have := Rat.le_of_mul_le_mul_right h1 hp
    have := Rat.le_of_mul_le_mul_right h2 hp
    grind
  rcases h with h | h
  · left
    have h' := key (2 * (k * pw s2)) (2 * (m * pw s1) + pw s2) (by grind)
    rw [pw_nat, pw_nat] at h'
    exact_mod_cast h'
  · right
    have h' := key (2 * (m * pw s1)) (2 * (k * pw s2) + pw s2) (by grind)
    rw [pw_nat, pw_nat] at h'
    exact_mod_cast h'

/-- WHAT IS KEPT GROWS WITH THE NUMBER. -/
theorem kept_mono (f : Format) (s t : Bool) (m n : Nat) (p q : Int) (hm : m ≠ 0) (hn : n ≠ 0) (h : (m : Rat) * pw p ≤ (n : Rat) * pw q) :
    (keptOf f s m p : Rat) * pw (lastOf f m p) ≤ (keptOf f t n q : Rat) * pw (lastOf f n q) := by
  have z1 := size_pw m p hm
  have z2 := size_pw n q hn
  have z3 : p + (m.log2 : Int) < q + n.log2 + 1 := lt_of_pw_lt (by grind)
  have hl : lastOf f m p ≤ lastOf f n q := by unfold lastOf; omega
  obtain ⟨a1, a2⟩ := kept_near f s m p
  obtain ⟨b1, b2⟩ := kept_near f t n q
  rcases Int.lt_or_le (lastOf f m p) (lastOf f n q) with hlt | hge
  · have hb := le_kept f t n q hn (by unfold lastOf at *; omega)
    have ha := kept_le f s m p hm
    have ha' : (keptOf f s m p : Rat) ≤ ((2 ^ (f.fractionBits + 1) : Nat) : Rat) := by exact_mod_cast ha
    have hb' : ((2 ^ f.fractionBits : Nat) : Rat) ≤ (keptOf f t n q : Rat) := by exact_mod_cast hb
    rw [← pw_nat] at ha' hb'
    have g1 := Rat.mul_le_mul_of_nonneg_right ha' (Rat.le_of_lt (pw_pos (lastOf f m p)))
    have g2 := Rat.mul_le_mul_of_nonneg_right hb' (Rat.le_of_lt (pw_pos (lastOf f n q)))
    rw [← pw_add] at g1 g2
    have g3 : pw (((f.fractionBits + 1 : Nat) : Int) + lastOf f m p) ≤ pw ((f.fractionBits : Int) + lastOf f n q) := pw_le (by omega)
    grind
  · have he : lastOf f n q = lastOf f m p := by omega
    have t1 := kept_tie f s m p
    have t2 := kept_tie f t n q
    rw [he] at b1 b2 t2 ⊢
    generalize keptOf f s m p = kx at *
    generalize keptOf f t n q = ky at *
    have hp := pw_pos (lastOf f m p)
    generalize pw (lastOf f m p) = L at *
    rcases Nat.lt_or_ge ky kx with hk | hk
    · exfalso
      have hk' : ((ky + 1 : Nat) : Rat) ≤ (kx : Rat) := by exact_mod_cast hk
      rw [show ((ky + 1 : Nat) : Rat) = (ky : Rat) + 1 from by exact_mod_cast rfl] at hk'
      have g := Rat.mul_le_mul_of_nonneg_right hk' (Rat.le_of_lt hp)
      have u1 := t1 (.inl (by grind))
      have u2 := t2 (.inr (by grind))
      have e1 : ((kx : Rat) - (ky + 1)) * L = 0 := by grind
      have hk2 : ((ky + 2 : Nat) : Rat) ≤ (kx : Rat) := by exact_mod_cast (by omega : ky + 2 ≤ kx)
      rw [show ((ky + 2 : Nat) : Rat) = (ky : Rat) + 2 from by exact_mod_cast rfl] at hk2
      have g' := Rat.mul_le_mul_of_nonneg_right hk2 (Rat.le_of_lt hp)
      grind
    · have hk' : (kx : Rat) ≤ (ky : Rat) := by exact_mod_cast hk
      exact Rat.mul_le_mul_of_nonneg_right hk' (Rat.le_of_lt hp)

theorem mag_nonneg (m : Nat) (p : Int) : 0 ≤ (m : Rat) * pw p := Rat.mul_nonneg (by exact_mod_cast Nat.zero_le m) (Rat.le_of_lt (pw_pos p))
theorem mag_zero {m : Nat} {p : Int} (h : (m : Rat) * pw p ≤ 0) : m = 0 := by
  rcases Nat.eq_zero_or_pos m with h0 | h0
  · exact h0
  · exfalso
    have h1 := (size_pw m p (by omega)).1
    have := pw_pos (p + (m.log2 : Int))
    grind

/-- what is written, read again: the sign stays, the size grows with the number's -/
theorem write_mono (f : Format) (he : 2 ≤ f.exponentBits) (s t : Bool) (m n : Nat) (p q : Int) (h : (m : Rat) * pw p ≤ (n : Rat) * pw q) (hB : (n : Rat) * pw q < pw (top f)) :
    ∃ m' p' n' q', f.read (f.write (.number s m p)) = .number s m' p' ∧ f.read (f.write (.number t n q)) = .number t n' q' ∧ (m' : Rat) * pw p' ≤ (n' : Rat) * pw q' := by
  have e1 : f.write (.number s m p) = f.nearest s m p := rfl
  have e2 : f.write (.number t n q) = f.nearest t n q := rfl
  rw [e1, e2]
  by_cases hm : m = 0
  · subst hm
    have : f.nearest s 0 p = f.word s 0 := by unfold Format.nearest; simp
    rw [this, zero_read]
    by_cases hn : n = 0
    · subst hn
      have : f.nearest t 0 q = f.word t 0 := by unfold Format.nearest; simp
      rw [this, zero_read]
      exact ⟨_, _, _, _, rfl, rfl, by simp⟩
    · obtain ⟨n', q', h1, h2, h3, h4⟩ := read_nearest f t n q hn (rung_lt f t n q hn he hB)
      exact ⟨_, _, _, _, rfl, h1, by have := mag_nonneg n' q'; simp; grind⟩
  · have hn : n ≠ 0 := by
      intro hn; subst hn
      exact hm (mag_zero (by simpa using h))
    obtain ⟨n', q', h1, h2, h3, h4⟩ := read_nearest f t n q hn (rung_lt f t n q hn he hB)
    obtain ⟨m', p', k1, k2, k3, k4⟩ := read_nearest f s m p hm (rung_lt f s m p hm he (by grind))
    refine ⟨_, _, _, _, k1, h1, ?_⟩
    rw [k2, h2]
    exact kept_mono f s t m n p q hm hn h

end Flo
end Go.Proofs.YtiakcibeobbonaaGreat

/- The model's l1Parts, of a number above 0 and below 2^53: its odd part and its exponent.
   Conditions: those that each statement names. -/
namespace Go.Proofs.YtiakcibeobbonaaGreat
set_option linter.unusedSimpArgs false
set_option linter.unusedVariables false
open Go Go.RowKit

namespace Flo
open Ieee
theorem p53 : pw 53 = 9007199254740992 := pw_nat 53
/-- cut towards zero -/
theorem trunc_ok (x m : Nat) (p : Int) (h : Ieee.double.read x = .number false m p) (hB : (m : Rat) * pw p < pw 53) :
    ∃ iv : Nat, floatToIntVal .f64 x .i64 = some (iv : Int) ∧ (iv : Rat) ≤ W x ∧ W x < (iv : Rat) + 1 := by
  have hv : W x = (m : Rat) * pw p := by rw [show W x = _ from V_eq h]; unfold val; simp
  have key : ∃ iv : Nat, (Ieee.Datum.number false m p).toInt .zero = some (iv : Int) ∧ (iv : Rat) ≤ (m : Rat) * pw p ∧ (m : Rat) * pw p < (iv : Rat) + 1 := by
    by_cases hp : 0 ≤ p
    · obtain ⟨q, rfl⟩ := Int.eq_ofNat_of_zero_le hp
      refine ⟨m * 2 ^ q, ?_, ?_, ?_⟩
      · unfold Datum.toInt Datum.integral Toward.cut
        simp [Ieee.signed, Nat.shiftLeft_eq]
      · rw [pw_nat]; push_cast; exact Rat.le_refl
      · rw [pw_nat]; push_cast; grind
    · obtain ⟨q, hq⟩ := Int.eq_ofNat_of_zero_le (show 0 ≤ -p by omega)
      have hpq : p = -(q : Int) := by omega
      subst hpq
      have hq0 : 0 < 2 ^ q := Nat.two_pow_pos q
      have hdiv : m / (1 <<< min q (m.log2 + 2)) = m / 2 ^ q := by
        rw [Nat.one_shiftLeft]
        by_cases hle : q ≤ m.log2 + 2
        · rw [Nat.min_eq_left hle]
        · rw [Nat.min_eq_right (by omega)]
          have l1 : m < 2 ^ (m.log2 + 2) := Nat.lt_of_lt_of_le Nat.lt_log2_self (Nat.pow_le_pow_right (by decide) (by omega))
          have l2 : m < 2 ^ q := Nat.lt_of_lt_of_le l1 (Nat.pow_le_pow_right (by decide) (by omega))
          rw [Nat.div_eq_of_lt l1, Nat.div_eq_of_lt l2]
      refine ⟨m / 2 ^ q, ?_, ?_, ?_⟩
      · unfold Datum.toInt Datum.integral Toward.cut
        have e1 : (-(q : Int)).toNat = 0 := by omega
        have e2 : (- -(q : Int)).toNat = q := by omega
        simp only [e1, e2, Nat.shiftLeft_zero, Bool.toNat_false, Nat.add_zero, hdiv, Ieee.signed]
        simp
      all_goals
        have e := Nat.div_add_mod m (2 ^ q)
        have l := Nat.mod_lt m hq0
        have hpp := pw_pos (-(q : Int))
        have hm := pw_neg_mul (q : Int)
        rw [pw_nat] at hm
        have ec : (m : Rat) = ((2 ^ q : Nat) : Rat) * ((m / 2 ^ q : Nat) : Rat) + ((m % 2 ^ q : Nat) : Rat) := by
          have : ((2 ^ q * (m / 2 ^ q) + m % 2 ^ q : Nat) : Rat) = (m : Rat) := by rw [e]
          rw [← this]; push_cast; rfl
        have r0 : (0 : Rat) ≤ ((m % 2 ^ q : Nat) : Rat) := by exact_mod_cast Nat.zero_le _
        have r1 : ((m % 2 ^ q : Nat) : Rat) < ((2 ^ q : Nat) : Rat) := by exact_mod_cast l
        generalize ((2 ^ q : Nat) : Rat) = T at *
        generalize ((m / 2 ^ q : Nat) : Rat) = D at *
        generalize ((m % 2 ^ q : Nat) : Rat) = R at *
        generalize Flo.pw (-(q : Int)) = Q at *
        have e3 : T * D * Q = D := by
          rw [show T * D * Q = D * (Q * T) by grind, hm]; grind
        have e4 : (m : Rat) * Q = D + R * Q := by rw [ec, Rat.add_mul, e3]
      · have k := Rat.mul_nonneg r0 (Rat.le_of_lt hpp)
        rw [e4]; grind
      · have k := Rat.mul_lt_mul_of_pos_right r1 hpp
        rw [e4]; grind
  obtain ⟨iv, k1, k2, k3⟩ := key
  refine ⟨iv, ?_, by rw [hv]; exact k2, by rw [hv]; exact k3⟩
  unfold floatToIntVal
  rw [show FloatKind.f64.decode x = _ from h, k1]
  have hlt : (iv : Rat) < 9007199254740992 := by rw [p53] at hB; grind
  have hn : iv < 9007199254740992 := by exact_mod_cast hlt
  simp only
  have hmin : IntKind.i64.min = -9223372036854775808 := by decide
  have hmax : IntKind.i64.max = 9223372036854775807 := by decide
  rw [if_pos (by rw [hmin, hmax]; omega)]
theorem trunc_lt {x iv : Nat} (h1 : (iv : Rat) ≤ W x) (hB : W x < pw 53) : iv < 9007199254740992 := by
  rw [p53] at hB
  have hlt : (iv : Rat) < 9007199254740992 := by grind
  exact_mod_cast hlt
/-- twice a number is exact -/
theorem double_exact (x m : Nat) (p : Int) (h : Ieee.double.read x = .number false m p) (hB : (m : Rat) * pw p < pw 53) :
    ∃ y m' p', floatBits .mul .f64 x 4611686018427387904 = some y ∧ Ieee.double.read y = .number false m' p' ∧ (m' : Rat) * pw p' = 2 * ((m : Rat) * pw p) := by
  obtain ⟨b1, b2, b3⟩ := read_bound Ieee.double (by decide) x false m p h
  have e : floatBits .mul .f64 x 4611686018427387904 = some (Ieee.double.write (.number false (m * 4503599627370496) (p + -51))) := by
    show Ieee.double.mul x _ = _
    unfold Format.mul
    rw [h, read_two]; rfl
  have hv : ((m * 4503599627370496 : Nat) : Rat) * pw (p + -51) = (m : Rat) * pw (p + 1) := by
    rw [show p + 1 = p + -51 + (52 : Nat) from by omega, pw_add (p + -51), pw_nat]
    have : ((2 ^ 52 : Nat) : Rat) = ((4503599627370496 : Nat) : Rat) := rfl
    rw [this]; push_cast; grind
  have h2 : (m : Rat) * pw (p + 1) = 2 * ((m : Rat) * pw p) := by rw [pw_succ]; grind
  obtain ⟨m', p', w1, w2, w3, w4⟩ := write_exact Ieee.double (by decide) false _ _ m (p + 1) hv b1 (by omega) (by
    rw [hv, h2, top_double]
    have l : pw 54 < pw 1023 := pw_lt (by omega)
    have l2 : pw 54 = 2 * pw 53 := by rw [← pw_succ]; rfl
    grind)
  exact ⟨_, m', p', e, w1, by rw [w4, hv, h2]⟩
theorem int_eq {a b : Nat} (h1 : (a : Rat) ≤ (b : Rat)) (h2 : (b : Rat) < (a : Rat) + 1) : a = b := by
  have k1 : a ≤ b := by exact_mod_cast h1
  have k2 : b < a + 1 := by exact_mod_cast h2
  omega
end Flo

theorem order_int {x iv : Nat} (hx : Flo.Nm x) (hi : iv < 9007199254740992) : (FloatKind.f64.format.order x (floatOfInt .f64 (iv : Int)) == some .eq) = decide (Flo.W x = (iv : Rat)) := by
  obtain ⟨n1, n2⟩ := Flo.int_double (iv : Int) (by omega)
  have o := Flo.order_num Ieee.double x _ hx n1
  rw [show Flo.V Ieee.double (floatOfInt .f64 (iv : Int)) = ((iv : Int) : Rat) from n2] at o
  have ec : ((iv : Int) : Rat) = (iv : Rat) := rfl
  rw [ec] at o
  by_cases h : Flo.W x = (iv : Rat)
  · rw [decide_eq_true h]
    simpa using (show FloatKind.f64.format.order x (floatOfInt .f64 (iv : Int)) = some .eq from o.2.1.2 h)
  · rw [decide_eq_false h]
    cases hg : (FloatKind.f64.format.order x (floatOfInt .f64 (iv : Int)) == some .eq) with
    | false => rfl
    | true => exact absurd (o.2.1.1 (show FloatKind.f64.format.order x (floatOfInt .f64 (iv : Int)) = some .eq by simpa using hg)) h

def PartP (V : Rat) (w : World) (e : Ending) (w' : World) : Prop :=
  ∃ (a : Nat) (q : Int), e = .returned (.tuple #[.int .i64 (a : Int), .int .i64 q]) ∧ a % 2 = 1 ∧ a < 9007199254740992 ∧ (a : Rat) * Flo.pw q = V ∧ -2000 ≤ q ∧ q ≤ 2000 ∧ w = w'
def P2I (m : Nat) (p : Int) (w : World) (x e : Value) (wr : World) : Prop :=
  ∃ (j y m' : Nat) (p' : Int), e = .int .i64 (-(j : Int)) ∧ x = .float .f64 y ∧ Ieee.double.read y = .number false m' p' ∧ (m' : Rat) * Flo.pw p' = (m : Rat) * Flo.pw (p + j) ∧ (p + j ≤ 0 ∨ j = 0) ∧ (m' : Rat) * Flo.pw p' < Flo.pw 53 ∧ w = wr
def P3I (V : Rat) (e0 : Int) (w : World) (e a : Value) (wr : World) : Prop :=
  ∃ (t b : Nat), e = .int .i64 (e0 + (t : Int)) ∧ a = .int .i64 (b : Int) ∧ 1 ≤ b ∧ b * 2 ^ t < 9007199254740992 ∧ (b : Rat) * Flo.pw (e0 + t) = V ∧ w = wr

theorem pow_t {b t : Nat} (h1 : 1 ≤ b) (h : b * 2 ^ t < 9007199254740992) : t < 53 := by
  rcases Nat.lt_or_ge t 53 with g | g
  · exact g
  · have h2 : 2 ^ 53 ≤ 2 ^ t := Nat.pow_le_pow_right (by decide) g
    have h3 := Nat.mul_le_mul h1 h2
    omega

set_option maxRecDepth 100000 in
theorem l1Parts_ok (x m : Nat) (p : Int) (h : Ieee.double.read x = .number false m p) (hm : m ≠ 0) (hB : (m : Rat) * Flo.pw p < Flo.pw 53) (w : World) :
    Calls Tryz.prog 97 #[.float .f64 x] w (PartP ((m : Rat) * Flo.pw p) w) := by
  obtain ⟨b1, b2, b3⟩ := Flo.read_bound Ieee.double (by decide) x false m p h
  have b2' : -1074 ≤ p := by rw [Flo.lp_double] at b2; exact b2
  have hge : (FloatKind.f64.format.order x 4845873199050653696 == some .gt || FloatKind.f64.format.order x 4845873199050653696 == some .eq) = false := by
    have h53 : Ieee.double.read 4845873199050653696 = .number false 4503599627370496 1 := by decide
    have o := Flo.order_num Ieee.double x 4845873199050653696 ⟨_, _, _, h⟩ ⟨_, _, _, h53⟩
    have e1 : Flo.V Ieee.double x = (m : Rat) * Flo.pw p := by rw [Flo.V_eq h]; unfold Flo.val; simp
    have e2 : Flo.V Ieee.double 4845873199050653696 = Flo.pw 53 := by
      rw [Flo.V_eq h53]; unfold Flo.val
      have : Flo.pw 1 = 2 := Flo.pw_one
      rw [this, Flo.p53]
      have : ((4503599627370496 : Nat) : Rat) = 4503599627370496 := rfl
      rw [this]; simp; grind
    rw [e1, e2] at o
    have hlt : FloatKind.f64.format.order x 4845873199050653696 = some .lt := o.1.2 hB
    rw [hlt]; rfl
  have H := Lib.hid (And.intro h (And.intro hm (And.intro hB b2')))
  have Hm53 := Lib.hid (show m < 9007199254740992 from b1)
  clear h hm hB b1 b2 b3
  go_enter Tryz.func97, Tryz.ntmps97
  go_wp2_with fail
  go_loopw [0, 4] (fun y e wr => y = .float .f64 x ∧ e = .int .i64 0 ∧ w = wr) (fun _ _ _ => 0)
  case atStart => exact ⟨rfl, rfl, rfl⟩
  case round =>
    obtain ⟨rfl, rfl, rfl⟩ := hrel
    go_wp2_with fail
    clear hge
    go_loopw [0, 4] (fun y e wr => P2I m p w y e wr) (fun _ e _ => (-(p + -(intOf e)) + 1).toNat)
    case atStart => exact ⟨0, x, m, p, rfl, rfl, H.out.1, by simp, .inr rfl, H.out.2.2.1, rfl⟩
    case round =>
      obtain ⟨j, y, m', p', rfl, rfl, hy, hv, hj, hB, rfl⟩ := hrel
      have Hy := Lib.hid (And.intro hy (And.intro hv hB))
      obtain ⟨iv, t1, t2, t3⟩ := Flo.trunc_ok y m' p' hy hB
      have ey : Flo.W y = (m' : Rat) * Flo.pw p' := by rw [show Flo.W y = _ from Flo.V_eq hy]; unfold Flo.val; simp
      have hi := Flo.trunc_lt t2 (by rw [ey]; exact hB)
      have ho := order_int (x := y) (iv := iv) ⟨_, _, _, hy⟩ hi
      have cv := fun w => run_convert_float_int (P := Tryz.prog) w 54 3 .f64 .i64 y (iv : Int) (by kernel_rfl) Tryz.underlying3 t1
      have T := Lib.hid (And.intro t2 (And.intro t3 ey))
      clear hy hv hB t1 t2 t3 ey
      by_cases heq : Flo.W y = (iv : Rat)
      · rw [decide_eq_true heq] at ho
        have ho2 : (FloatKind.f64.format.order y (floatOfInt .f64 (iv : Int)) != some .eq) = false := by unfold bne; rw [ho]; rfl
        have Heq := Lib.hid heq
        clear heq
        go_wp2_with fail
        clear ho ho2
        have hiv1 : 1 ≤ iv := by
          have e1 := Heq.out
          rw [T.out.2.2, Hy.out.2.1] at e1
          rcases Nat.eq_zero_or_pos iv with h0 | h0
          · exfalso
            rw [h0] at e1
            have : (m : Rat) * Flo.pw (p + j) = 0 := by rw [e1]; rfl
            exact H.out.2.1 (Flo.mag_zero (by rw [this]; exact Rat.le_refl))
          · exact h0
        have hV : (iv : Rat) * Flo.pw (-(j : Int)) = (m : Rat) * Flo.pw p := by
          rw [← Heq.out, T.out.2.2, Hy.out.2.1, Rat.mul_assoc, ← Flo.pw_add]
          congr 2; omega
        have hj2 : (j : Int) ≤ 1074 := by have := H.out.2.2.2; omega
        go_loopw [4, 5] (fun e a wr => P3I ((m : Rat) * Flo.pw p) (-(j : Int)) w e a wr) (fun _ a _ => (intOf a).toNat)
        case atStart => exact ⟨0, iv, by simp, rfl, hiv1, by simpa using hi, by simpa using hV, rfl⟩
        case round =>
          obtain ⟨t, b, rfl, rfl, hb1, hbt, hbv, rfl⟩ := hrel
          have ht := pow_t hb1 hbt
          have Hb := Lib.hid (And.intro hbt hbv)
          have hb53 : b < 9007199254740992 := Nat.lt_of_le_of_lt (Nat.le_mul_of_pos_right b (Nat.two_pow_pos t)) hbt
          clear hbt hbv
          by_cases h2 : b % 2 = 0
          · have hm2 : (b : Int) % 2 = 0 := by omega
            go_wp2_with fail
            go_roundw
            case rel =>
              refine ⟨t + 1, b / 2, by rw [show -(j : Int) + ((t + 1 : Nat) : Int) = -(j : Int) + (t : Int) + 1 from by omega], by rw [show ((b / 2 : Nat) : Int) = (b : Int) / 2 from by omega], by omega, ?_, ?_, rfl⟩
              · have := Hb.out.1
                rw [Nat.pow_succ, Nat.mul_comm (2 ^ t) 2, ← Nat.mul_assoc, show b / 2 * 2 = b by omega]; exact this
              · rw [← Hb.out.2, show -(j : Int) + ((t + 1 : Nat) : Int) = -(j : Int) + (t : Int) + 1 from by omega, Flo.pw_succ]
                have e : (b : Rat) = 2 * ((b / 2 : Nat) : Rat) := by
                  have : ((2 * (b / 2) : Nat) : Rat) = (b : Rat) := by rw [show 2 * (b / 2) = b by omega]
                  rw [← this]; push_cast; rfl
                rw [e]; grind
            case measure => simp only [intOf]; omega
          · have hm2 : (b : Int) % 2 = 1 := by omega
            go_wp2_with fail
            go_ret2
            exact ⟨b, _, rfl, by omega, hb53, Hb.out.2, by omega, by omega, rfl⟩
      · rw [decide_eq_false heq] at ho
        have ho2 : (FloatKind.f64.format.order y (floatOfInt .f64 (iv : Int)) != some .eq) = true := by unfold bne; rw [ho]; rfl
        have hneg : p + (j : Int) < 0 := by
          rcases Int.lt_or_le (p + (j : Int)) 0 with g | g
          · exact g
          · exfalso
            obtain ⟨q, hq⟩ := Int.eq_ofNat_of_zero_le g
            apply heq
            have e1 := T.out.2.2
            rw [Hy.out.2.1, hq, Flo.pw_nat] at e1
            have e2 : Flo.W y = ((m * 2 ^ q : Nat) : Rat) := by rw [e1]; push_cast; rfl
            have k := Flo.int_eq (a := iv) (b := m * 2 ^ q) (by rw [← e2]; exact T.out.1) (by rw [← e2]; exact T.out.2.1)
            rw [e2, k]
        obtain ⟨z, m2, p2, d1, d2, d3⟩ := Flo.double_exact y m' p' Hy.out.1 Hy.out.2.2
        have r1 : ∀ w, fres w .mul .f64 y 4611686018427387904 = z := fun w => by unfold fres; rw [d1]
        have r2 : fdr .mul .f64 y 4611686018427387904 = 0 := by unfold fdr; rw [d1]; rfl
        have hv2 : (m2 : Rat) * Flo.pw p2 = (m : Rat) * Flo.pw (p + ((j + 1 : Nat) : Int)) := by
          rw [d3, Hy.out.2.1, show p + ((j + 1 : Nat) : Int) = p + (j : Int) + 1 from by omega, Flo.pw_succ]; grind
        have hB2 : (m2 : Rat) * Flo.pw p2 < Flo.pw 53 := by
          rw [hv2]
          have l1 : Flo.pw (p + ((j + 1 : Nat) : Int)) ≤ Flo.pw 0 := Flo.pw_le (by omega)
          have m53 : (m : Rat) < 9007199254740992 := by exact_mod_cast Hm53.out
          have m0 : (0 : Rat) ≤ (m : Rat) := by exact_mod_cast Nat.zero_le m
          have k := Rat.mul_le_mul_of_nonneg_left l1 m0
          rw [Flo.pw_zero] at k
          rw [Flo.p53]; grind
        have D := Lib.hid (And.intro d2 (And.intro hv2 hB2))
        have hj1 : (j : Int) ≤ 1074 := by have := H.out.2.2.2; omega
        clear d1 d2 d3 hv2 hB2 heq
        go_wp2_with fail
        go_roundw
        case rel => exact ⟨j + 1, z, m2, p2, by rw [show -((j + 1 : Nat) : Int) = -(j : Int) - 1 from by omega], rfl, D.out.1, D.out.2.1, .inl (by omega), D.out.2.2, rfl⟩
        case measure => simp only [intOf]; omega

end Go.Proofs.YtiakcibeobbonaaGreat

/- Plain facts on numbers of double precision that are integers times a power of two: their sums, differences and products, and quotients by a power of two, are exact. No program stands in it.
   Conditions: those that each statement names. -/
namespace Go.Proofs.YtiakcibeobbonaaGreat.Flo
set_option linter.unusedSimpArgs false
set_option linter.unusedVariables false
open Go Ieee

/-- a number that is n times 2^e -/
def Dy (e n : Int) (b : Nat) : Prop := Nm b ∧ W b = (n : Rat) * pw e

theorem natAbs_rat (n : Int) : ((n.natAbs : Nat) : Rat) = if n < 0 then -(n : Rat) else (n : Rat) := by
  split
  · rename_i h
    have : ((n.natAbs : Nat) : Int) = -n := by omega
    rw [← Rat.intCast_natCast, this]; push_cast; rfl
  · rename_i h
    have : ((n.natAbs : Nat) : Int) = n := by omega
    rw [← Rat.intCast_natCast, this]

theorem write_dy (s : Bool) (m : Nat) (p : Int) (e n : Int) (h : val s m p = (n : Rat) * pw e) (hn : n.natAbs < 9007199254740992) (he : -1074 ≤ e) (he2 : e ≤ 970) :
    Dy e n (Ieee.double.write (.number s m p)) := by
  have a1 : (0 : Rat) ≤ (m : Rat) * pw p := by
    have a1 : (0 : Rat) ≤ m := by exact_mod_cast Nat.zero_le m
    exact Rat.mul_nonneg a1 (Rat.le_of_lt (pw_pos p))
  have hk : (m : Rat) * pw p = ((n.natAbs : Nat) : Rat) * pw e := by
    rw [natAbs_rat]
    have pe := pw_pos e
    unfold val at h
    by_cases hn0 : n < 0
    · have hn1 : (n : Rat) < 0 := by exact_mod_cast hn0
      have := Rat.mul_pos (show 0 < -(n : Rat) by grind) pe
      rw [if_pos hn0]
      cases s <;> simp at h <;> grind
    · have hn1 : 0 ≤ (n : Rat) := by exact_mod_cast (show (0 : Int) ≤ n by omega)
      have := Rat.mul_nonneg hn1 (Rat.le_of_lt pe)
      rw [if_neg hn0]
      cases s <;> simp at h <;> grind
  have hB : (m : Rat) * pw p < pw (top Ieee.double) := by
    rw [hk, top_double]
    by_cases h0 : n.natAbs = 0
    · rw [h0]; have := pw_pos 1023; simp; grind
    · have b1 := (size_pw n.natAbs e h0).2
      have b2 : n.natAbs.log2 < 53 := (Nat.log2_lt h0).2 hn
      have b3 := pw_le (show e + (n.natAbs.log2 : Int) + 1 ≤ 1023 by omega)
      grind
  obtain ⟨m', p', w1, -, -, w4⟩ := write_exact Ieee.double (by decide) s m p n.natAbs e hk hn (by rw [lp_double]; omega) hB
  refine ⟨⟨_, _, _, w1⟩, ?_⟩
  rw [show W (Ieee.double.write (.number s m p)) = _ from V_eq w1, ← h]
  unfold val
  rw [w4]

theorem dy_int (n : Int) (hn : n.natAbs < 9007199254740992) : Dy 0 n (floatOfInt .f64 n) := by
  obtain ⟨h1, h2⟩ := int_double n hn
  exact ⟨h1, by rw [h2, pw_zero]; grind⟩

theorem dy_add {e m n : Int} {x y : Nat} (hx : Dy e m x) (hy : Dy e n y) (h : (m + n).natAbs < 9007199254740992) (he : -1074 ≤ e) (he2 : e ≤ 970) :
    ∃ r, floatBits .add .f64 x y = some r ∧ Dy e (m + n) r := by
  obtain ⟨⟨s, a, i, hx⟩, vx⟩ := hx
  obtain ⟨⟨t, b, j, hy⟩, vy⟩ := hy
  obtain ⟨q, k, c, h3, h4⟩ := sum_val s t a b i j
  rw [show W x = _ from V_eq hx] at vx
  rw [show W y = _ from V_eq hy] at vy
  show ∃ r, Ieee.double.add x y = some r ∧ _
  unfold Format.add
  rw [hx, hy, h3]
  exact ⟨_, rfl, write_dy q k c e (m + n) (by rw [h4, vx, vy]; push_cast; grind) h he he2⟩

theorem dy_sub {e m n : Int} {x y : Nat} (hx : Dy e m x) (hy : Dy e n y) (h : (m - n).natAbs < 9007199254740992) (he : -1074 ≤ e) (he2 : e ≤ 970) :
    ∃ r, floatBits .sub .f64 x y = some r ∧ Dy e (m - n) r := by
  obtain ⟨⟨s, a, i, hx⟩, vx⟩ := hx
  obtain ⟨⟨t, b, j, hy⟩, vy⟩ := hy
  obtain ⟨q, k, c, h3, h4⟩ := sum_val s (!t) a b i j
  rw [val_opp] at h4
  rw [show W x = _ from V_eq hx] at vx
  rw [show W y = _ from V_eq hy] at vy
  show ∃ r, Ieee.double.sub x y = some r ∧ _
  unfold Format.sub
  rw [hx, hy, show (Datum.number t b j).opposite = .number (!t) b j from rfl, h3]
  exact ⟨_, rfl, write_dy q k c e (m - n) (by rw [h4, vx, vy]; push_cast; grind) h he he2⟩

theorem dy_mul {e f m n : Int} {x y : Nat} (hx : Dy e m x) (hy : Dy f n y) (h : (m * n).natAbs < 9007199254740992) (he : -1074 ≤ e + f) (he2 : e + f ≤ 970) :
    ∃ r, floatBits .mul .f64 x y = some r ∧ Dy (e + f) (m * n) r := by
  obtain ⟨⟨s, a, i, hx⟩, vx⟩ := hx
  obtain ⟨⟨t, b, j, hy⟩, vy⟩ := hy
  rw [show W x = _ from V_eq hx] at vx
  rw [show W y = _ from V_eq hy] at vy
  show ∃ r, Ieee.double.mul x y = some r ∧ _
  unfold Format.mul
  rw [hx, hy, show Datum.product (.number s a i) (.number t b j) = some (.number (s ^^ t) (a * b) (i + j)) from rfl]
  exact ⟨_, rfl, write_dy _ _ _ _ _ (by rw [val_mul, vx, vy, pw_add]; push_cast; grind) h he he2⟩

/-- a quotient by 2^d -/
theorem dy_div {e n d : Int} {x y : Nat} (hx : Dy e n x) (hy : Ieee.double.read y = .number false 4503599627370496 (d - 52)) (hn : n.natAbs < 9007199254740992) (he : -1074 ≤ e - d) (he2 : e - d ≤ 970) :
    ∃ r, floatBits .quo .f64 x y = some r ∧ Dy (e - d) n r := by
  obtain ⟨⟨s, m, p, hx⟩, vx⟩ := hx
  rw [show W x = _ from V_eq hx] at vx
  obtain ⟨b1, b2, b3⟩ := read_bound Ieee.double (by decide) x s m p hx
  have hm53 : m < 9007199254740992 := b1
  unfold floatBits Ieee.Format.div
  show ∃ r, Option.map Ieee.double.write (Datum.quotient _ (Ieee.double.read x) (Ieee.double.read y)) = some r ∧ _
  rw [hx, hy]
  have hval : val s m (p - d) = (n : Rat) * pw (e - d) := by
    have e1 : val s m (p - d) = val s m p * pw (-d) := by unfold val; rw [show p - d = p + -d from by omega, pw_add]; grind
    rw [e1, vx, show e - d = e + -d from by omega, pw_add]; grind
  by_cases hm : m = 0
  · subst hm
    simp only [Datum.quotient]
    rw [if_neg (by decide)]
    simp only [Nat.zero_shiftLeft, Nat.zero_div, Nat.zero_mod, bne_self_eq_false, Bool.toNat_false, Option.map_some, Bool.xor_false]
    exact ⟨_, rfl, write_dy _ _ _ _ _ (by rw [← hval, val_zero, val_zero]) hn he he2⟩
  · have hl : m.log2 ≤ 52 := by
      have : m.log2 < 53 := (Nat.log2_lt hm).2 (by simpa using hm53)
      omega
    have hl2 : Nat.log2 4503599627370496 = 52 := by decide
    simp only [Datum.quotient]
    rw [if_neg (by decide), hl2]
    rw [show (FloatKind.f64.format.fractionBits + 2 + 52 - m.log2 : Nat) = 52 + (54 - m.log2) from by
      have : FloatKind.f64.format.fractionBits = 52 := rfl
      omega]
    generalize hk : 54 - m.log2 = k
    have e1 : m <<< (52 + k) = m * 2 ^ k * 4503599627370496 := by
      rw [Nat.shiftLeft_eq, Nat.add_comm, Nat.pow_add, Nat.mul_assoc]
    rw [e1, Nat.mul_div_cancel _ (by decide), Nat.mul_mod_left]
    simp only [bne_self_eq_false, Bool.toNat_false, Nat.add_zero, Option.map_some, Bool.xor_false]
    have hv : ((2 * (m * 2 ^ k) : Nat) : Rat) * pw (p - (d - 52) - ((52 + k : Nat) : Int) - 1) = (m : Rat) * pw (p - d) := by
      have e : pw (p - d) = pw ((k + 1 : Nat) : Int) * pw (p - (d - 52) - ((52 + k : Nat) : Int) - 1) := by rw [← pw_add]; congr 1; omega
      rw [e, pw_nat, Nat.pow_succ]
      push_cast
      grind
    refine ⟨_, rfl, write_dy _ _ _ _ _ ?_ hn he he2⟩
    rw [← hval]
    unfold val
    rw [hv]

end Go.Proofs.YtiakcibeobbonaaGreat.Flo

/- Plain: the bits of a number of double precision, taken apart and put together; odd parts.
   Conditions: those that each statement names. -/
namespace Go.Proofs.YtiakcibeobbonaaGreat
set_option linter.unusedSimpArgs false
set_option linter.unusedVariables false
open Go Go.RowKit

theorem read_sub (s x : Nat) (hs : s < 2) (hx : x < 4503599627370496) : Ieee.double.read (s * 9223372036854775808 + x) = .number (s == 1) x (-1074) := by
  unfold Ieee.Format.read
  simp only [show Ieee.double.signWeight = 9223372036854775808 from by decide, show Ieee.double.binade = 4503599627370496 from by decide]
  have h1 : (s * 9223372036854775808 + x) % 9223372036854775808 = x := by omega
  have h2 : (s * 9223372036854775808 + x) / 9223372036854775808 % 2 = s := by omega
  rw [h1, h2]
  rw [if_pos hx]
  rfl
theorem read_nor (s E F : Nat) (hs : s < 2) (h1 : 1 ≤ E) (h2 : E < 2047) (hF : F < 4503599627370496) : Ieee.double.read (s * 9223372036854775808 + (E * 4503599627370496 + F)) = .number (s == 1) (4503599627370496 + F) ((E : Int) - 1075) := by
  have hE : (-1074 : Int) + ((E - 1 : Nat) : Int) = (E : Int) - 1075 := by omega
  unfold Ieee.Format.read
  simp only [show Ieee.double.signWeight = 9223372036854775808 from by decide, show Ieee.double.binade = 4503599627370496 from by decide]
  have h5 : (E * 4503599627370496 + F) / 4503599627370496 = E := by omega
  have h6 : (E * 4503599627370496 + F) % 4503599627370496 = F := by omega
  have h3 : (s * 9223372036854775808 + (E * 4503599627370496 + F)) % 9223372036854775808 = E * 4503599627370496 + F := by clear h5 h6; omega
  have h4 : (s * 9223372036854775808 + (E * 4503599627370496 + F)) / 9223372036854775808 % 2 = s := by clear h3 h5 h6; omega
  rw [h3, h4, h5, h6]
  rw [if_neg (by omega), if_pos (by rw [show Ieee.double.infRung = 9218868437227405312 from by decide]; omega)]
  rw [show Ieee.double.leastPlace = -1074 from by decide]
  rw [hE]

/-- the words of numbers -/
theorem word_cases (x m : Nat) (sg : Bool) (p : Int) (hx : x < 18446744073709551616) (h : Ieee.double.read x = .number sg m p) :
    ∃ s, s < 2 ∧ sg = (s == 1) ∧ ((x = s * 9223372036854775808 + m ∧ m < 4503599627370496 ∧ p = -1074) ∨ (∃ E F : Nat, x = s * 9223372036854775808 + (E * 4503599627370496 + F) ∧ 1 ≤ E ∧ E < 2047 ∧ F < 4503599627370496 ∧ m = 4503599627370496 + F ∧ p = (E : Int) - 1075)) := by
  have e0 : x = x / 9223372036854775808 * 9223372036854775808 + x % 9223372036854775808 := by omega
  have hs : x / 9223372036854775808 < 2 := by omega
  generalize x / 9223372036854775808 = s at e0 hs
  have hr : x % 9223372036854775808 < 9223372036854775808 := by omega
  generalize x % 9223372036854775808 = r at e0 hr
  subst e0
  refine ⟨s, hs, ?_⟩
  by_cases hsub : r < 4503599627370496
  · rw [read_sub s r hs hsub] at h
    injection h with h0 h1 h2
    subst h1
    exact ⟨h0.symm, .inl ⟨rfl, hsub, h2.symm⟩⟩
  · have hfin : r < 9218868437227405312 := by
      rcases Nat.lt_or_ge r 9218868437227405312 with g | g
      · exact g
      · exfalso
        have h1 : (s * 9223372036854775808 + r) % 9223372036854775808 = r := by omega
        unfold Ieee.Format.read at h
        simp only [show Ieee.double.signWeight = 9223372036854775808 from by decide, show Ieee.double.infRung = 9218868437227405312 from by decide, show Ieee.double.binade = 4503599627370496 from by decide, h1] at h
        rw [if_neg (by omega), if_neg (by omega)] at h
        split at h <;> simp at h
    have e : r = r / 4503599627370496 * 4503599627370496 + r % 4503599627370496 := by omega
    have k := read_nor s (r / 4503599627370496) (r % 4503599627370496) hs (by omega) (by omega) (by omega)
    rw [← e, h] at k
    injection k with k0 k1 k2
    exact ⟨k0, .inr ⟨_, _, by rw [← e], by omega, by omega, by omega, k1, k2⟩⟩

theorem clr (x : Nat) (hx : x < 18446744073709551616) : bits .andNot .u64 (x : Int) 9218868437227405312 = ((x / 9223372036854775808 * 9223372036854775808 + x % 4503599627370496 : Nat) : Int) := by
  have e := u64_andNot_nat x 9218868437227405312 hx (by decide)
  rw [show ((9218868437227405312 : Nat) : Int) = 9218868437227405312 from rfl] at e
  rw [e]
  have j : (18446744073709551615 - 9218868437227405312 : Nat) = 9223372036854775808 ||| 4503599627370495 := by decide
  rw [j, Nat.and_or_distrib_left, nat_hi64_63, nat_mask52, Nat.mod_eq_of_lt hx]
  rw [nat_join52 _ _ (by omega) (by omega)]
theorem put (s F N : Nat) (hs : s < 2) (hF : F < 4503599627370496) (hN : N < 2048) : bits .or .u64 ((s * 9223372036854775808 + F : Nat) : Int) ((N * 4503599627370496 : Nat) : Int) = ((s * 9223372036854775808 + (N * 4503599627370496 + F) : Nat) : Int) := by
  rw [u64_or_nat _ _ (by omega) (by omega)]
  have j1 : s * 9223372036854775808 + F = (s * 9223372036854775808) ||| F := (nat_join52 _ _ (by omega) hF).symm
  rw [j1, Nat.or_assoc, nat_join52' _ _ (by omega) hF, nat_join63 _ _ (by omega) (by omega)]

/-- odd parts are unique -/
theorem odd_unique (a b : Nat) (q r : Int) (ha : a % 2 = 1) (hb : b % 2 = 1) (h : (a : Rat) * Flo.pw q = (b : Rat) * Flo.pw r) : a = b ∧ q = r := by
  have key : ∀ (a b : Nat) (q r : Int), a % 2 = 1 → b % 2 = 1 → (a : Rat) * Flo.pw q = (b : Rat) * Flo.pw r → q ≤ r → a = b ∧ q = r := by
    intro a b q r ha hb h hle
    obtain ⟨d, hd⟩ := Int.eq_ofNat_of_zero_le (show 0 ≤ r - q by omega)
    have e : r = q + (d : Int) := by omega
    rw [e, Flo.pw_add, Flo.pw_nat] at h
    have p0 := Flo.pw_pos q
    have h2 : (a : Rat) = (b : Rat) * ((2 ^ d : Nat) : Rat) := by
      have := Rat.mul_inv_cancel (Flo.pw q) (by grind)
      have k : (a : Rat) * Flo.pw q * (Flo.pw q)⁻¹ = (b : Rat) * (Flo.pw q * ((2 ^ d : Nat) : Rat)) * (Flo.pw q)⁻¹ := by rw [h]
      grind
    have h3 : a = b * 2 ^ d := by exact_mod_cast h2
    cases d with
    | zero => exact ⟨by rw [h3]; simp, by omega⟩
    | succ d =>
      exfalso
      rw [Nat.pow_succ, ← Nat.mul_assoc] at h3
      omega
  rcases Int.le_total q r with g | g
  · exact key a b q r ha hb h g
  · obtain ⟨k1, k2⟩ := key b a r q hb ha h.symm g
    exact ⟨k1.symm, k2.symm⟩

theorem log_double (x : Nat) : ∃ p, Flo.pw p = (2 : Rat) ^ x := ⟨x, by rw [Flo.pw_nat]; push_cast; rfl⟩

end Go.Proofs.YtiakcibeobbonaaGreat

/- Absolute values of single precision, by way of double precision: numbers of both precisions that stand for the same number, or infinity, that is not negative.
   Conditions: those that each statement names. -/
namespace Go.Proofs.YtiakcibeobbonaaGreat
set_option linter.unusedSimpArgs false
set_option linter.unusedVariables false
open Go Go.RowKit

namespace Flo
open Ieee
/-- A number that the format has is written as it is: also the greatest ones. -/
theorem write_exact_top (f : Format) (he : 2 ≤ f.exponentBits) (s : Bool) (m : Nat) (p : Int) (k : Nat) (e : Int) (hk : (m : Rat) * pw p = (k : Rat) * pw e) (hk1 : k < 2 ^ (f.fractionBits + 1)) (hp : f.leastPlace ≤ e) (hB : e ≤ f.leastPlace + ((2 ^ f.exponentBits : Nat) - 3)) :
    ∃ m' p', f.read (f.write (.number s m p)) = .number s m' p' ∧ (m' : Rat) * pw p' = (m : Rat) * pw p := by
  have hw : f.write (.number s m p) = f.nearest s m p := rfl
  rw [hw]
  by_cases h : m = 0
  · subst h
    have : f.nearest s 0 p = f.word s 0 := by unfold Format.nearest; simp
    rw [this, zero_read]
    exact ⟨_, _, rfl, by simp⟩
  · obtain ⟨n1, n2⟩ := kept_near f s m p
    have hk0 : k ≠ 0 := by
      intro hk0; subst hk0
      have := (size_pw m p h).1
      have := pw_pos (p + m.log2)
      simp at hk
      grind
    have hlast : lastOf f m p ≤ e := by
      have a1 := (size_pw m p h).1
      have a2 := (size_pw k e hk0).2
      rw [← hk] at a2
      have a3 := lt_of_pw_lt (a := p + m.log2) (b := e + k.log2 + 1) (by grind)
      have a4 : k.log2 < f.fractionBits + 1 := by
        rw [Nat.log2_lt hk0]; exact hk1
      unfold lastOf; omega
    have hex : (keptOf f s m p : Rat) * pw (lastOf f m p) = (m : Rat) * pw p := by
      obtain ⟨d, hd⟩ := Int.le.dest hlast
      rw [hk, ← hd, Int.add_comm, pw_add, pw_nat] at n1 n2
      rw [hk, ← hd, Int.add_comm, pw_add, pw_nat]
      have hp := pw_pos (lastOf f m p)
      have q1 : keptOf f s m p ≤ k * 2 ^ d := le_nat_of _ _ (lastOf f m p) (by push_cast; grind)
      have q2 : k * 2 ^ d ≤ keptOf f s m p := le_nat_of _ _ (lastOf f m p) (by push_cast; grind)
      have q3 : keptOf f s m p = k * 2 ^ d := by omega
      rw [q3]; push_cast; grind
    have hkl : keptOf f s m p < 2 ^ (f.fractionBits + 1) := by
      rcases Nat.lt_or_ge (keptOf f s m p) (2 ^ (f.fractionBits + 1)) with h1 | h1
      · exact h1
      · exfalso
        have h2 : ((2 ^ (f.fractionBits + 1) : Nat) : Rat) ≤ (keptOf f s m p : Rat) := by exact_mod_cast h1
        rw [← pw_nat] at h2
        have h3 := Rat.mul_le_mul_of_nonneg_right h2 (Rat.le_of_lt (pw_pos (lastOf f m p)))
        rw [← pw_add, hex] at h3
        have h4 := (size_pw m p h).2
        have h5 : pw (p + m.log2 + 1) ≤ pw (((f.fractionBits + 1 : Nat) : Int) + lastOf f m p) := pw_le (by unfold lastOf; omega)
        grind
    have hr : rungOf f s m p < f.infRung := by
      have h4 : 4 ≤ 2 ^ f.exponentBits := by
        have := Nat.pow_le_pow_right (n := 2) (by omega) he
        simpa using this
      unfold rungOf Format.infRung
      have hb1 : 2 ^ (f.fractionBits + 1) = 2 * f.binade := by rw [Nat.pow_succ, Nat.mul_comm]; rfl
      have h5 : (lastOf f m p - f.leastPlace).toNat ≤ 2 ^ f.exponentBits - 3 := by omega
      have h6 := Nat.mul_le_mul_right f.binade h5
      have h7 : (2 ^ f.exponentBits - 1) * f.binade = (2 ^ f.exponentBits - 3) * f.binade + 2 * f.binade := by rw [← Nat.add_mul]; congr 1; omega
      have := bin_pos f
      omega
    obtain ⟨m', p', h1, h2, h3, h4⟩ := read_nearest f s m p h hr
    exact ⟨m', p', h1, by rw [h2]; exact hex⟩
end Flo

/-- p (single) and b (double) stand for one number or infinity, neither with a sign -/
def Tw (p b : Nat) : Prop :=
  (∃ m i n j, Ieee.single.read p = .number false m i ∧ Ieee.double.read b = .number false n j ∧ (m : Rat) * Flo.pw i = (n : Rat) * Flo.pw j) ∨
  (Ieee.single.read p = .infinity false ∧ Ieee.double.read b = .infinity false)
theorem Tw.nan {p b : Nat} (h : Tw p b) : nan32 p = false ∧ nan64 b = false := by
  unfold nan32 nan64
  rcases h with ⟨m, i, n, j, h1, h2, -⟩ | ⟨h1, h2⟩
  · rw [show FloatKind.f32.decode p = _ from h1, show FloatKind.f64.decode b = _ from h2]; exact ⟨rfl, rfl⟩
  · rw [show FloatKind.f32.decode p = _ from h1, show FloatKind.f64.decode b = _ from h2]; exact ⟨rfl, rfl⟩
theorem tw_zero : Tw 0 0 := .inl ⟨0, -149, 0, -1074, by decide, by decide, by simp⟩

theorem order_val {f g : Ieee.Format} {a b c d : Nat} (ha : Flo.IsNum f a) (hb : Flo.IsNum f b) (hc : Flo.IsNum g c) (hd : Flo.IsNum g d) (h1 : Flo.V f a = Flo.V g c) (h2 : Flo.V f b = Flo.V g d) : f.order a b = g.order c d := by
  have o := Flo.order_num f a b ha hb
  have O := Flo.order_num g c d hc hd
  rw [← h1, ← h2] at O
  have hs : ∃ r, f.order a b = some r := by
    obtain ⟨s, m, i, ha⟩ := ha
    obtain ⟨t, n, j, hb⟩ := hb
    unfold Ieee.Format.order; rw [ha, hb]; exact ⟨_, rfl⟩
  obtain ⟨r, hr⟩ := hs
  rw [hr]
  cases r
  · exact (O.1.2 (o.1.1 hr)).symm
  · exact (O.2.1.2 (o.2.1.1 hr)).symm
  · exact (O.2.2.2 (o.2.2.1 hr)).symm

theorem Tw.order {p b q c : Nat} (h : Tw p b) (k : Tw q c) : Ieee.double.order b c = Ieee.single.order p q := by
  rcases h with ⟨m, i, n, j, h1, h2, h3⟩ | ⟨h1, h2⟩
  · rcases k with ⟨m', i', n', j', k1, k2, k3⟩ | ⟨k1, k2⟩
    · refine order_val ⟨_, _, _, h2⟩ ⟨_, _, _, k2⟩ ⟨_, _, _, h1⟩ ⟨_, _, _, k1⟩ ?_ ?_
      · rw [Flo.V_eq h1, Flo.V_eq h2]; unfold Flo.val; simp only [Bool.false_eq_true, if_false]; rw [h3]
      · rw [Flo.V_eq k1, Flo.V_eq k2]; unfold Flo.val; simp only [Bool.false_eq_true, if_false]; rw [k3]
    · unfold Ieee.Format.order; rw [h1, h2, k1, k2]; try rfl
  · rcases k with ⟨m', i', n', j', k1, k2, k3⟩ | ⟨k1, k2⟩
    · unfold Ieee.Format.order; rw [h1, h2, k1, k2]; try rfl
    · unfold Ieee.Format.order; rw [h1, h2, k1, k2]; try rfl

/-- against a widened number -/
theorem Tw.order_wid {p b g : Nat} (h : Tw p b) (hg : nan32 g = false) : Ieee.double.order b (wid g) = Ieee.single.order p g := by
  cases hd : Ieee.single.read g with
  | nan s f => unfold nan32 at hg; rw [show FloatKind.f32.decode g = _ from hd] at hg; cases hg
  | infinity s =>
    have k := wid_inf hd
    rcases h with ⟨m, i, n, j, h1, h2, h3⟩ | ⟨h1, h2⟩
    · unfold Ieee.Format.order; rw [h1, h2, hd, k]; rfl
    · unfold Ieee.Format.order; rw [h1, h2, hd, k]; try rfl
  | number s m' i' =>
    obtain ⟨n', j', k, k3⟩ := wid_read hd
    rcases h with ⟨m, i, n, j, h1, h2, h3⟩ | ⟨h1, h2⟩
    · refine order_val ⟨_, _, _, h2⟩ ⟨_, _, _, k⟩ ⟨_, _, _, h1⟩ ⟨_, _, _, hd⟩ ?_ ?_
      · rw [Flo.V_eq h1, Flo.V_eq h2]; unfold Flo.val; simp only [Bool.false_eq_true, if_false]; rw [h3]
      · rw [Flo.V_eq hd, Flo.V_eq k]; unfold Flo.val; rw [k3]
    · unfold Ieee.Format.order; rw [h1, h2, hd, k]; rfl

/-- two of single precision that stand for the same one are the same, widened -/
theorem Tw.same {p q b : Nat} (h : Tw p b) (k : Tw q b) (w1 w2 : World) : sameF (fcv w1 .f32 p .f64) (fcv w2 .f32 q .f64) = true := by
  rw [fcv_wide h.nan.1, fcv_wide k.nan.1]
  unfold sameF
  rw [wid_nan h.nan.1, wid_nan k.nan.1]
  simp only [Bool.or_self, Bool.false_eq_true, if_false]
  rw [show FloatKind.f64.format = Ieee.double from rfl]
  rcases h with ⟨m, i, n, j, h1, h2, h3⟩ | ⟨h1, h2⟩
  · rcases k with ⟨m', i', n', j', k1, k2, k3⟩ | ⟨k1, k2⟩
    · rw [h2] at k2; cases k2
      obtain ⟨a, c, e1, e2⟩ := wid_read h1
      obtain ⟨a', c', e3, e4⟩ := wid_read k1
      have ev : Flo.V Ieee.double (wid p) = Flo.V Ieee.double (wid q) := by rw [Flo.V_eq e1, Flo.V_eq e3]; unfold Flo.val; rw [e2, e4, h3, k3]
      have eq : Ieee.double.order (wid p) (wid q) = some .eq := (Flo.order_num Ieee.double (wid p) (wid q) ⟨_, _, _, e1⟩ ⟨_, _, _, e3⟩).2.1.2 ev
      have e0 : Ieee.double.order (wid p) 0 = Ieee.double.order (wid q) 0 := order_val ⟨_, _, _, e1⟩ zero_num.1 ⟨_, _, _, e3⟩ zero_num.1 ev rfl
      split
      · rename_i hz
        simp only [Bool.and_eq_true, beq_iff_eq] at hz
        have z1 := (Flo.order_num Ieee.double (wid p) 0 ⟨_, _, _, e1⟩ zero_num.1).2.1.1 hz.1
        have z2 := (Flo.order_num Ieee.double (wid q) 0 ⟨_, _, _, e3⟩ zero_num.1).2.1.1 hz.2
        rw [show Flo.V Ieee.double 0 = 0 from zero_num.2] at z1 z2
        have q1 : ∀ x a c, Ieee.double.read x = .number false a c → Flo.V Ieee.double x = 0 → (floatBits .quo .f64 4607182418800017408 x).getD 0 = (floatBits .quo .f64 4607182418800017408 0).getD 0 := by
          intro x a c hx hv
          have ha : a = 0 := by
            rw [Flo.V_eq hx] at hv
            unfold Flo.val at hv
            simp only [Bool.false_eq_true, if_false] at hv
            rcases Nat.eq_zero_or_pos a with h0 | h0
            · exact h0
            · exfalso
              have h1 : (0 : Rat) < a := by exact_mod_cast h0
              have := Rat.mul_pos h1 (Flo.pw_pos c)
              grind
          subst ha
          have hz : Ieee.double.read 0 = .number false 0 (-1074) := by decide
          show ((Ieee.double.div 4607182418800017408 x).getD 0) = ((Ieee.double.div 4607182418800017408 0).getD 0)
          unfold Ieee.Format.div
          rw [hx, hz]
          cases hr : Ieee.double.read 4607182418800017408 with
          | nan s f => rfl
          | infinity s => rfl
          | number s m i => by_cases hm : m = 0 <;> simp [Ieee.Datum.quotient, hm]
        rw [q1 _ _ _ e1 z1, q1 _ _ _ e3 z2]
        simp
      · rw [eq]; rfl
    · rw [h2] at k2; cases k2
  · rcases k with ⟨m', i', n', j', k1, k2, k3⟩ | ⟨k1, k2⟩
    · rw [h2] at k2; cases k2
    · have e1 := wid_inf h1
      have e2 := wid_inf k1
      have hz : Ieee.double.read 0 = .number false 0 (-1074) := by decide
      have o1 : Ieee.double.order (wid p) 0 = some .gt := by unfold Ieee.Format.order; rw [e1, hz]; rfl
      have o2 : Ieee.double.order (wid p) (wid q) = some .eq := by unfold Ieee.Format.order; rw [e1, e2]; rfl
      rw [o1, o2]; rfl

/-- narrowed again -/
theorem tw_narrow {x z : Nat} {s : Bool} {m : Nat} {i : Int} (hx : Ieee.single.read x = .number s m i) {n : Nat} {j : Int} (hz : Ieee.double.read z = .number false n j) (he : (n : Rat) * Flo.pw j = (m : Rat) * Flo.pw i) (w : World) :
    Tw (fcv w .f64 z .f32) z ∧ fcd .f64 z .f32 = 0 := by
  obtain ⟨h1, h2, h3⟩ := single_bound hx
  have e1 : Ieee.single.leastPlace = -149 := by decide
  have e2 : (2 ^ Ieee.single.exponentBits : Nat) = 256 := by decide
  obtain ⟨m', p', w1, w4⟩ := Flo.write_exact_top Ieee.single (by decide) false n j m i he (Nat.lt_of_lt_of_le h1 (by decide)) (by omega) (by omega)
  have hd : FloatKind.f64.decode z = .number false n j := hz
  have hr : FloatKind.f32.decode (FloatKind.f32.encode (.number false n j)) = .number false m' p' := w1
  constructor
  · unfold fcv
    rw [if_neg (by decide), hd]
    simp only
    rw [hr]
    simp only [Ieee.Datum.isInfinity, Bool.false_eq_true, if_false]
    exact .inl ⟨m', p', n, j, w1, hz, w4⟩
  · unfold fcd
    rw [if_neg (by decide), hd]
    simp only
    rw [hr]
    simp [Ieee.Datum.isInfinity]
theorem tw_narrow_inf {z : Nat} (hz : Ieee.double.read z = .infinity false) (w : World) : Tw (fcv w .f64 z .f32) z ∧ fcd .f64 z .f32 = 0 := by
  have hd : FloatKind.f64.decode z = .infinity false := hz
  constructor
  · unfold fcv
    rw [if_neg (by decide), hd]
    refine .inr ⟨?_, hz⟩
    show Ieee.single.read (Ieee.single.word false Ieee.single.infRung) = _
    rw [Flo.read_word_inf, if_neg (by decide)]
  · unfold fcd
    rw [if_neg (by decide), hd]


/-! ### absolute values -/
theorem labs_read {z : Nat} (hz : z < 2 ^ 64) {s : Bool} {n : Nat} {j : Int} (h : Ieee.double.read z = .number s n j) : ∃ n' j', Ieee.double.read (labs z) = .number false n' j' ∧ (n' : Rat) * Flo.pw j' = (n : Rat) * Flo.pw j := by
  have o := Flo.order_num Ieee.double z 0 ⟨_, _, _, h⟩ zero_num.1
  rw [show Flo.V Ieee.double 0 = 0 from zero_num.2, Flo.V_eq h] at o
  have hp := Flo.pw_pos j
  have hn : (0 : Rat) ≤ n := by exact_mod_cast Nat.zero_le n
  have hnp := Rat.mul_nonneg hn (Rat.le_of_lt hp)
  unfold labs
  rw [show FloatKind.f64.format = Ieee.double from rfl]
  by_cases h1 : Ieee.double.order z 0 = some .lt
  · rw [if_pos h1]
    have hlt := o.1.1 h1
    have hs : s = true := by
      cases s with
      | true => rfl
      | false => exfalso; unfold Flo.val at hlt; simp only [Bool.false_eq_true, if_false] at hlt; grind
    subst hs
    exact ⟨n, j, neg_read z hz true n j h, rfl⟩
  · rw [if_neg h1]
    by_cases h2 : Ieee.double.order z 0 = some .eq
    · rw [if_pos h2]
      have hv := o.2.1.1 h2
      refine ⟨0, -1074, by decide, ?_⟩
      unfold Flo.val at hv
      cases s <;> simp at hv ⊢ <;> grind
    · rw [if_neg h2]
      have hs : s = false := by
        cases s with
        | false => rfl
        | true =>
          exfalso
          unfold Flo.val at o
          simp only [if_true] at o
          rcases Classical.em (-1 * ((n : Rat) * Flo.pw j) < 0) with h3 | h3
          · exact h1 (o.1.2 h3)
          · exact h2 (o.2.1.2 (by grind))
      subst hs
      exact ⟨n, j, h, rfl⟩
theorem neg_inf {z : Nat} (hz : z < 2 ^ 64) (h : Ieee.double.read z = .infinity true) : Ieee.double.read (Op.negFloat .f64 z) = .infinity false := by
  have hsw : Ieee.double.signWeight = 9223372036854775808 := by decide
  have hir : Ieee.double.infRung = 9218868437227405312 := by decide
  have hz2 : z = 18442240474082181120 := by
    unfold Ieee.Format.read at h
    rw [hsw, hir] at h
    simp only at h
    split at h
    · cases h
    · split at h
      · cases h
      · split at h
        · rename_i g
          have hs : (z / 9223372036854775808 % 2 == 1) = true := by injection h
          simp only [beq_iff_eq] at hs
          omega
        · cases h
  rw [hz2]
  decide
theorem labs_inf {z : Nat} (hz : z < 2 ^ 64) {s : Bool} (h : Ieee.double.read z = .infinity s) : Ieee.double.read (labs z) = .infinity false := by
  have h0 : Ieee.double.read 0 = .number false 0 (-1074) := by decide
  unfold labs
  rw [show FloatKind.f64.format = Ieee.double from rfl]
  cases s with
  | true =>
    have h1 : Ieee.double.order z 0 = some .lt := by unfold Ieee.Format.order; rw [h, h0]; rfl
    rw [if_pos h1]
    exact neg_inf hz h
  | false =>
    have h1 : Ieee.double.order z 0 = some .gt := by unfold Ieee.Format.order; rw [h, h0]; rfl
    rw [h1]
    exact h

/-- THE ABSOLUTE VALUE IN SINGLE PRECISION, AND THAT OF THE MODEL: both stand for the same -/
theorem tw_abs {x : Nat} (hx : nan32 x = false) (w : World) : Tw (fcv w .f64 (wid x % signBit) .f32) (labs (wid x)) ∧ fcd .f64 (wid x % signBit) .f32 = 0 := by
  have hm := mod_read (wid x)
  cases hd : Ieee.single.read x with
  | nan s f => unfold nan32 at hx; rw [show FloatKind.f32.decode x = _ from hd] at hx; cases hx
  | infinity s =>
    have hw := wid_inf hd
    rw [show FloatKind.f64.decode (wid x) = _ from hw] at hm
    have k := tw_narrow_inf hm w
    refine ⟨?_, k.2⟩
    rcases k.1 with ⟨m, i, n, j, h1, h2, h3⟩ | ⟨h1, h2⟩
    · rw [show Ieee.double.read (wid x % signBit) = _ from hm] at h2; cases h2
    · exact .inr ⟨h1, labs_inf (wid_lt x) hw⟩
  | number s m i =>
    obtain ⟨n, j, hw, he⟩ := wid_read hd
    rw [show FloatKind.f64.decode (wid x) = _ from hw] at hm
    have k := tw_narrow hd hm he w
    refine ⟨?_, k.2⟩
    obtain ⟨n', j', l1, l2⟩ := labs_read (wid_lt x) hw
    rcases k.1 with ⟨m1, i1, n1, j1, h1, h2, h3⟩ | ⟨h1, h2⟩
    · rw [show Ieee.double.read (wid x % signBit) = _ from hm] at h2
      cases h2
      exact .inl ⟨m1, i1, n', j', h1, l1, by rw [h3, l2]⟩
    · rw [show Ieee.double.read (wid x % signBit) = _ from hm] at h2; cases h2

end Go.Proofs.YtiakcibeobbonaaGreat

/- Plain facts: of two numbers in a format's words that are equal, and have one sign, the words are the same; what is the same in single precision.
   Conditions: those that each statement names. No program stands in it. -/
namespace Go.Proofs.YtiakcibeobbonaaGreat
set_option linter.unusedSimpArgs false
set_option linter.unusedVariables false
open Go

namespace Flo
open Ieee
/-- the size of a rung, in units of the least place -/
def rungV (B r : Nat) : Nat := if r < B then r else (B + r % B) * 2 ^ (r / B - 1)
theorem rungV_succ (B r : Nat) (hB : 0 < B) : rungV B r < rungV B (r + 1) := by
  unfold rungV
  by_cases h : r + 1 < B
  · rw [if_pos h, if_pos (by omega)]; omega
  · rw [if_neg h]
    by_cases h1 : r < B
    · have e : r + 1 = B := by omega
      rw [if_pos h1, e, Nat.mod_self, Nat.div_self hB]
      simp; omega
    · rw [if_neg h1]
      have hd : 1 ≤ r / B := (Nat.le_div_iff_mul_le hB).2 (by omega)
      by_cases h2 : r % B + 1 < B
      · have e1 : (r + 1) % B = r % B + 1 := by rw [Nat.add_mod, Nat.mod_eq_of_lt (show 1 < B by omega)]; exact Nat.mod_eq_of_lt h2
        have e2 : (r + 1) / B = r / B := by
          have a := Nat.div_add_mod r B
          rw [show r + 1 = B * (r / B) + (r % B + 1) from by omega, Nat.mul_add_div hB, Nat.div_eq_of_lt h2]; omega
        rw [e1, e2]
        exact Nat.mul_lt_mul_of_pos_right (by omega) (Nat.two_pow_pos _)
      · have hlt := Nat.mod_lt r hB
        have e0 : r + 1 = B * (r / B + 1) := by have a := Nat.div_add_mod r B; rw [Nat.mul_add]; omega
        have e1 : (r + 1) % B = 0 := by rw [e0]; exact Nat.mul_mod_right _ _
        have e2 : (r + 1) / B = r / B + 1 := by rw [e0]; exact Nat.mul_div_cancel_left _ hB
        rw [e1, e2]
        have e3 : r / B + 1 - 1 = (r / B - 1) + 1 := by omega
        rw [e3, Nat.pow_succ, Nat.mul_comm (2 ^ _) 2, ← Nat.mul_assoc]
        exact Nat.mul_lt_mul_of_pos_right (by omega) (Nat.two_pow_pos _)
theorem rungV_lt (B : Nat) (hB : 0 < B) : ∀ (d r : Nat), rungV B r < rungV B (r + d + 1)
  | 0, r => rungV_succ B r hB
  | d + 1, r => Nat.lt_trans (rungV_lt B hB d r) (rungV_succ B (r + d + 1) hB)
theorem rungV_inj (B : Nat) (hB : 0 < B) {r s : Nat} (h : rungV B r = rungV B s) : r = s := by
  rcases Nat.lt_trichotomy r s with h1 | h1 | h1
  · have := rungV_lt B hB (s - r - 1) r
    rw [show r + (s - r - 1) + 1 = s by omega] at this; omega
  · exact h1
  · have := rungV_lt B hB (r - s - 1) s
    rw [show s + (r - s - 1) + 1 = r by omega] at this; omega

theorem read_rung (f : Format) {b : Nat} {s : Bool} {m : Nat} {p : Int} (h : f.read b = .number s m p) :
    (b / f.signWeight % 2 == 1) = s ∧ (m : Rat) * pw p = (rungV f.binade (b % f.signWeight) : Rat) * pw f.leastPlace := by
  unfold Format.read at h
  simp only at h
  split at h
  · rename_i h1
    injection h with h2 h3 h4
    subst h3; subst h4
    exact ⟨h2, by unfold rungV; rw [if_pos h1]⟩
  · rename_i h1
    split at h
    · rename_i h5
      injection h with h2 h3 h4
      subst h3; subst h4
      refine ⟨h2, ?_⟩
      unfold rungV
      rw [if_neg h1, Int.add_comm, pw_add, pw_nat]
      push_cast
      grind
    · split at h <;> cases h

/-- NUMBERS THAT ARE EQUAL AND HAVE ONE SIGN ARE ONE WORD -/
theorem read_inj (f : Format) {a b : Nat} {s : Bool} {m n : Nat} {p q : Int} (ha : f.read a = .number s m p) (hb : f.read b = .number s n q) (hal : a < 2 * f.signWeight) (hbl : b < 2 * f.signWeight) (h : (m : Rat) * pw p = (n : Rat) * pw q) : a = b := by
  obtain ⟨a1, a2⟩ := read_rung f ha
  obtain ⟨b1, b2⟩ := read_rung f hb
  rw [a2, b2] at h
  have hp := pw_pos f.leastPlace
  have h2 : (rungV f.binade (a % f.signWeight) : Rat) = (rungV f.binade (b % f.signWeight) : Rat) := by
    have h3 : ((rungV f.binade (a % f.signWeight) : Rat) - (rungV f.binade (b % f.signWeight) : Rat)) * pw f.leastPlace = 0 := by grind
    rcases Rat.mul_eq_zero.1 h3 with h4 | h4
    · grind
    · grind
  have h4 := rungV_inj f.binade (bin_pos f) (Rat.natCast_inj.1 h2)
  have hs := sw_pos f
  have e1 := Nat.div_add_mod a f.signWeight
  have e2 := Nat.div_add_mod b f.signWeight
  have l1 : a / f.signWeight < 2 := (Nat.div_lt_iff_lt_mul hs).2 hal
  have l2 : b / f.signWeight < 2 := (Nat.div_lt_iff_lt_mul hs).2 hbl
  have e3 : a / f.signWeight = b / f.signWeight := by
    rw [← b1] at a1
    have g1 : a / f.signWeight % 2 = a / f.signWeight := Nat.mod_eq_of_lt l1
    have g2 : b / f.signWeight % 2 = b / f.signWeight := Nat.mod_eq_of_lt l2
    rw [g1, g2] at a1
    have : (a / f.signWeight = 1) ↔ (b / f.signWeight = 1) := by rw [← beq_iff_eq (a := a / f.signWeight), a1, beq_iff_eq]
    omega
  rw [← e1, ← e2, e3, h4]
theorem inf_word (f : Format) {b : Nat} {s : Bool} (h : f.read b = .infinity s) (hb : b < 2 * f.signWeight) : b = f.word s f.infRung := by
  have hs := sw_pos f
  have e1 := Nat.div_add_mod b f.signWeight
  have l1 : b / f.signWeight < 2 := (Nat.div_lt_iff_lt_mul hs).2 hb
  have g1 : b / f.signWeight % 2 = b / f.signWeight := Nat.mod_eq_of_lt l1
  unfold Format.read at h
  simp only at h
  split at h
  · cases h
  · split at h
    · cases h
    · split at h
      · rename_i h1
        injection h with h2
        rw [g1] at h2
        unfold Format.word
        cases s with
        | true =>
          have : b / f.signWeight = 1 := by simpa using h2
          rw [this] at e1; simp; omega
        | false =>
          have : ¬ b / f.signWeight = 1 := by simpa using h2
          have : b / f.signWeight = 0 := by omega
          rw [this] at e1; simp; omega
      · cases h
theorem same_sign {s t : Bool} {m n : Nat} {p q : Int} (h : val s m p = val t n q) (h0 : val s m p ≠ 0) : s = t ∧ (m : Rat) * pw p = (n : Rat) * pw q := by
  have a := Rat.mul_nonneg (show (0 : Rat) ≤ m by exact_mod_cast Nat.zero_le m) (Rat.le_of_lt (pw_pos p))
  have b := Rat.mul_nonneg (show (0 : Rat) ≤ n by exact_mod_cast Nat.zero_le n) (Rat.le_of_lt (pw_pos q))
  unfold val at h h0
  cases s <;> cases t <;> simp at h h0 ⊢ <;> grind
theorem val_zero_mag {s : Bool} {m : Nat} {p : Int} (h : val s m p = 0) : (m : Rat) * pw p = 0 := by
  unfold val at h
  cases s <;> simp at h ⊢ <;> grind
end Flo

theorem one_over_zero {z : Nat} {s : Bool} {p : Int} (h : Ieee.double.read z = .number s 0 p) : (Ieee.double.order ((floatBits .quo .f64 4607182418800017408 z).getD 0) 0 == some .gt) = !s := by
  have h1 : Ieee.double.read 4607182418800017408 = .number false 4503599627370496 (-52) := by decide
  have h2 : floatBits .quo .f64 4607182418800017408 z = some (Ieee.double.word s Ieee.double.infRung) := by
    show Ieee.double.div 4607182418800017408 z = _
    unfold Ieee.Format.div
    rw [h1, h]
    cases s <;> simp [Ieee.Datum.quotient, Ieee.Format.write]
  rw [h2]
  cases s <;> decide

/-- two of single precision are the same: one word, or both NaN -/
def sameX (x y : Nat) : Bool := x == y || (nan32 x && nan32 y)
theorem sameX_wide {x y : Nat} (hx : nan32 x = false) (hy : nan32 y = false) (lx : x < 2 ^ 32) (ly : y < 2 ^ 32) : sameF (wid x) (wid y) = sameX x y := by
  have esw : 2 * Ieee.single.signWeight = 2 ^ 32 := by decide
  unfold sameX
  rw [hx, hy]
  simp only [Bool.and_self, Bool.or_false]
  by_cases hxy : x = y
  · subst hxy; rw [sameF_self]; simp
  · rw [show (x == y) = false from by simpa using hxy]
    unfold sameF
    rw [wid_nan hx, wid_nan hy]
    simp only [Bool.or_self, Bool.false_eq_true, if_false]
    rw [show FloatKind.f64.format = Ieee.double from rfl]
    cases h1 : Ieee.single.read x with
    | nan s f => unfold nan32 at hx; rw [show FloatKind.f32.decode x = _ from h1] at hx; cases hx
    | infinity s =>
      have k1 := wid_inf h1
      have hz : Ieee.double.read 0 = .number false 0 (-1074) := by decide
      have o1 : (Ieee.double.order (wid x) 0 == some .eq) = false := by unfold Ieee.Format.order; rw [k1, hz]; cases s <;> rfl
      rw [o1]
      simp only [Bool.false_and, Bool.false_eq_true, if_false]
      cases h2 : Ieee.single.read y with
      | nan s f => unfold nan32 at hy; rw [show FloatKind.f32.decode y = _ from h2] at hy; cases hy
      | infinity t =>
        have hst : s ≠ t := by
          intro e; subst e
          exact hxy ((Flo.inf_word _ h1 (by omega)).trans (Flo.inf_word _ h2 (by omega)).symm)
        unfold Ieee.Format.order; rw [k1, wid_inf h2]
        cases s <;> cases t <;> first | (exfalso; exact hst rfl) | rfl
      | number t n j =>
        obtain ⟨m', p', k2, -⟩ := wid_read h2
        unfold Ieee.Format.order; rw [k1, k2]; cases s <;> rfl
    | number s m i =>
      obtain ⟨m', i', k1, e1⟩ := wid_read h1
      cases h2 : Ieee.single.read y with
      | nan s f => unfold nan32 at hy; rw [show FloatKind.f32.decode y = _ from h2] at hy; cases hy
      | infinity t =>
        have k2 := wid_inf h2
        have hz : Ieee.double.read 0 = .number false 0 (-1074) := by decide
        have o1 : (Ieee.double.order (wid y) 0 == some .eq) = false := by unfold Ieee.Format.order; rw [k2, hz]; cases t <;> rfl
        rw [o1]
        simp only [Bool.and_false, Bool.false_eq_true, if_false]
        unfold Ieee.Format.order; rw [k1, k2]; cases t <;> rfl
      | number t n j =>
        obtain ⟨n', j', k2, e2⟩ := wid_read h2
        have ox := Flo.order_num Ieee.double (wid x) 0 ⟨_, _, _, k1⟩ zero_num.1
        have oy := Flo.order_num Ieee.double (wid y) 0 ⟨_, _, _, k2⟩ zero_num.1
        have o := Flo.order_num Ieee.double (wid x) (wid y) ⟨_, _, _, k1⟩ ⟨_, _, _, k2⟩
        rw [show Flo.V Ieee.double 0 = 0 from zero_num.2, Flo.V_eq k1] at ox
        rw [show Flo.V Ieee.double 0 = 0 from zero_num.2, Flo.V_eq k2] at oy
        rw [Flo.V_eq k1, Flo.V_eq k2] at o
        have hinj : s = t → (m' : Rat) * Flo.pw i' = (n' : Rat) * Flo.pw j' → False := by
          intro es ev
          subst es
          exact hxy (Flo.read_inj _ h1 h2 (by omega) (by omega) (by rw [← e1, ← e2]; exact ev))
        split
        · rename_i hz
          simp only [Bool.and_eq_true, beq_iff_eq] at hz
          have z1 := Flo.val_zero_mag (ox.2.1.1 hz.1)
          have z2 := Flo.val_zero_mag (oy.2.1.1 hz.2)
          have m0 : m' = 0 := by
            rcases Rat.mul_eq_zero.1 z1 with h | h
            · exact_mod_cast h
            · have := Flo.pw_pos i'; grind
          have n0 : n' = 0 := by
            rcases Rat.mul_eq_zero.1 z2 with h | h
            · exact_mod_cast h
            · have := Flo.pw_pos j'; grind
          subst m0; subst n0
          rw [one_over_zero k1, one_over_zero k2]
          cases s <;> cases t <;> first | rfl | (exfalso; exact hinj rfl (by rw [z1, z2]))
        · rename_i hz
          cases ho : (Ieee.double.order (wid x) (wid y) == some .eq) with
          | false => rfl
          | true =>
            exfalso
            have ev := o.2.1.1 (by simpa using ho)
            by_cases h0 : Flo.val s m' i' = 0
            · apply hz
              rw [ox.2.1.2 h0, oy.2.1.2 (by rw [← ev]; exact h0)]; rfl
            · obtain ⟨q1, q2⟩ := Flo.same_sign ev h0
              exact hinj q1 q2
theorem sameX_any {x y : Nat} (lx : x < 2 ^ 32) (ly : y < 2 ^ 32) (w1 w2 : World) : sameF (fcv w1 .f32 x .f64) (fcv w2 .f32 y .f64) = sameX x y := by
  cases hx : nan32 x with
  | true =>
    have h1 := nan_wide hx w1
    cases hy : nan32 y with
    | true =>
      have h2 := nan_wide hy w2
      unfold sameF sameX; rw [h1, h2, hx, hy]; simp
    | false =>
      have h2 := wid_nan hy
      rw [fcv_wide hy]
      unfold sameF sameX; rw [h1, h2, hx, hy]
      have : x ≠ y := by intro e; subst e; rw [hx] at hy; cases hy
      simp [this]
  | false =>
    cases hy : nan32 y with
    | true =>
      have h1 := wid_nan hx
      have h2 := nan_wide hy w2
      rw [fcv_wide hx]
      unfold sameF sameX; rw [h1, h2, hx, hy]
      have : x ≠ y := by intro e; subst e; rw [hx] at hy; cases hy
      simp [this]
    | false => rw [fcv_wide hx, fcv_wide hy, sameX_wide hx hy lx ly]
theorem sameX_self (x : Nat) : sameX x x = true := by unfold sameX; simp

end Go.Proofs.YtiakcibeobbonaaGreat

/- The model's FormatDouble and FormatSingle, of 0 and of numbers above 0 and below 2^53.
   Conditions: those that each statement names. -/
namespace Go.Proofs.YtiakcibeobbonaaGreat
set_option linter.unusedSimpArgs false
set_option linter.unusedVariables false
open Go Go.RowKit

set_option maxRecDepth 100000 in
theorem l1Num_any (z : Int) (hz : -2000 ≤ z ∧ z ≤ 2000) (w : World) :
    Calls Tryz.prog 38 #[.int .i64 z] w (StrP (numL z) w) := by
  by_cases h : z < 0
  · obtain ⟨k, hk⟩ := Int.eq_ofNat_of_zero_le (show 0 ≤ -z by omega)
    have e : z = -(k : Int) := by omega
    subst e
    have hl := dgs_len 17 k (by omega)
    have hadd : ∀ w, (Op.stringOp .add (⟨#[45]⟩ : ByteArray) (strOfNums (dgs k))).run Tryz.prog w = .ok (.string (strOfNums (45 :: dgs k))) w := fun w => by
      have e45 : (⟨#[45]⟩ : ByteArray) = strOfNums [45] := rfl
      rw [e45, run_string_add _ _ _ (by rw [strOfNums_size]; decide) (by rw [strOfNums_size]; omega), str_cons]
    have hneg : - -(k : Int) = (k : Int) := by omega
    clear hl
    go_enter Tryz.func38, Tryz.ntmps38
    go_wp2_with (first | (go_at_call 38; refine (l1Number_ok k (by omega) _).mono ?_; rintro e w1 ⟨rfl, n1⟩; have N1 := Lib.hid n1; clear n1))
    all_goals
      go_ret
      exact ⟨by unfold numL; rw [if_pos h]; simp, N1.out⟩
  · obtain ⟨k, rfl⟩ := Int.eq_ofNat_of_zero_le (show 0 ≤ z by omega)
    refine (l1Number_ok k (by omega) w).mono ?_
    rintro e w1 ⟨rfl, n1⟩
    exact ⟨by unfold numL; rw [if_neg h]; simp, n1⟩
theorem numL_len (z : Int) (hz : -2000 ≤ z ∧ z ≤ 2000) : (numL z).length ≤ 19 := by
  unfold numL
  have := dgs_len 17 z.natAbs (by omega)
  split
  · simp; omega
  · omega

/-- the text of a number above 0: its odd part, 'p', its exponent -/
def FmtP (V : Rat) (w : World) (e : Ending) (w' : World) : Prop :=
  ∃ (a : Nat) (q : Int), a % 2 = 1 ∧ a < 9007199254740992 ∧ (a : Rat) * Flo.pw q = V ∧ -2000 ≤ q ∧ q ≤ 2000 ∧ e = .returned (.string (strOfNums (dgs a ++ 112 :: numL q))) ∧ Nw w w'

set_option maxRecDepth 100000 in
theorem specFormat_pos (x m : Nat) (p : Int) (h : Ieee.double.read x = .number false m p) (hm : m ≠ 0) (hB : (m : Rat) * Flo.pw p < Flo.pw 53) (w : World) :
    Calls Tryz.prog 66 #[.float .f64 x] w (FmtP ((m : Rat) * Flo.pw p) w) := by
  have o := Flo.order_num Ieee.double x 0 ⟨_, _, _, h⟩ zero_num.1
  rw [show Flo.V Ieee.double 0 = 0 from zero_num.2, Flo.V_eq h] at o
  have hpos : 0 < Flo.val false m p := by
    unfold Flo.val
    have h1 : (0 : Rat) < (m : Rat) := by exact_mod_cast Nat.pos_of_ne_zero hm
    have := Rat.mul_pos h1 (Flo.pw_pos p)
    simp; exact this
  have hgt : FloatKind.f64.format.order x 0 = some .gt := o.2.2.2 hpos
  have e1 : (FloatKind.f64.format.order x 0 == some .eq) = false := by rw [hgt]; rfl
  have e2 : (FloatKind.f64.format.order x 0 == some .lt) = false := by rw [hgt]; rfl
  have hl : labs x = x := by unfold labs; rw [hgt]; rfl
  have hf : fin .f64 x = true := fin_num ⟨_, _, _, h⟩
  have H := Lib.hid (And.intro h (And.intro hm hB))
  clear h hm hB o hpos hgt
  go_enter Tryz.func66, Tryz.ntmps66
  go_wp2_with fail
  refine (l1Finite_any _ _).mono ?_
  rintro e w1 ⟨rfl, n1, rfl⟩
  rw [hf]
  go_wp2_with fail
  refine (l1Abs_any _ _).mono ?_
  rintro e w2 ⟨rfl, rfl⟩
  rw [hl]
  go_wp2_with fail
  refine (l1Parts_ok x m p H.out.1 H.out.2.1 H.out.2.2 _).mono ?_
  rintro e w3 ⟨a, q, rfl, ha, ha53, hv, hq1, hq2, rfl⟩
  have A := Lib.hid (And.intro ha (And.intro ha53 hv))
  have l1 := dgs_len 17 a (by omega)
  have l2 := numL_len q ⟨hq1, hq2⟩
  have c1 : ∀ w, (Op.stringOp .add (⟨#[]⟩ : ByteArray) (strOfNums (dgs a))).run Tryz.prog w = .ok (.string (strOfNums (dgs a))) w := fun w => by
    have e0 : (⟨#[]⟩ : ByteArray) = strOfNums [] := rfl
    rw [e0, run_string_add _ _ _ (by rw [strOfNums_size]; decide) (by rw [strOfNums_size]; omega), str_app]; rfl
  have c2 : ∀ w, (Op.stringOp .add (strOfNums (dgs a)) (⟨#[112]⟩ : ByteArray)).run Tryz.prog w = .ok (.string (strOfNums (dgs a ++ [112]))) w := fun w => by
    have e0 : (⟨#[112]⟩ : ByteArray) = strOfNums [112] := rfl
    rw [e0, run_string_add _ _ _ (by rw [strOfNums_size]; omega) (by rw [strOfNums_size]; decide), str_app]
  have c3 : ∀ w, (Op.stringOp .add (strOfNums (dgs a ++ [112])) (strOfNums (numL q))).run Tryz.prog w = .ok (.string (strOfNums (dgs a ++ 112 :: numL q))) w := fun w => by
    rw [run_string_add _ _ _ (by rw [strOfNums_size, List.length_append]; simp; omega) (by rw [strOfNums_size]; omega), str_app]; simp
  clear ha ha53 hv l1 l2
  go_wp2_with fail
  refine (l1Number_ok a (by have := A.out.2.1; omega) _).mono ?_
  rintro e w4 ⟨rfl, n4⟩
  have N4 := Lib.hid (((Nw.refl w).draw _).trans n4)
  clear n4
  go_wp2_with fail
  refine (l1Num_any q ⟨hq1, hq2⟩ _).mono ?_
  rintro e w5 ⟨rfl, n5⟩
  have N5 := Lib.hid (N4.out.trans n5)
  clear n5
  go_wp2_with fail
  go_ret
  exact ⟨a, q, A.out.1, A.out.2.1, A.out.2.2, hq1, hq2, rfl, N5.out⟩

set_option maxRecDepth 100000 in
theorem specFormat_zero (w : World) : Calls Tryz.prog 66 #[.float .f64 0] w fun e w' => e = .returned (.string ⟨#[48]⟩) ∧ Nw w w' := by
  have hf : fin .f64 0 = true := by decide
  have e1 : (FloatKind.f64.format.order 0 0 == some .eq) = true := by decide
  have r1 : ∀ w, fres w .quo .f64 4607182418800017408 0 = 9218868437227405312 := fun w => by unfold fres; rw [show floatBits .quo .f64 4607182418800017408 0 = some 9218868437227405312 from by decide]
  have r2 : fdr .quo .f64 4607182418800017408 0 = 0 := by decide
  have e2 : (FloatKind.f64.format.order 9218868437227405312 0 == some .lt) = false := by decide
  go_enter Tryz.func66, Tryz.ntmps66
  go_wp2_with fail
  refine (l1Finite_any _ _).mono ?_
  rintro e w1 ⟨rfl, n1, rfl⟩
  rw [hf]
  go_wp2_with fail
  all_goals
    go_ret
    exact ⟨rfl, (Nw.refl w).draw _⟩
set_option maxRecDepth 100000 in
theorem specFormat_minus (w : World) : Calls Tryz.prog 66 #[.float .f64 9223372036854775808] w fun e w' => e = .returned (.string ⟨#[45, 48]⟩) ∧ Nw w w' := by
  have hf : fin .f64 9223372036854775808 = true := by decide
  have e1 : (FloatKind.f64.format.order 9223372036854775808 0 == some .eq) = true := by decide
  have r1 : ∀ w, fres w .quo .f64 4607182418800017408 9223372036854775808 = 18442240474082181120 := fun w => by unfold fres; rw [show floatBits .quo .f64 4607182418800017408 9223372036854775808 = some 18442240474082181120 from by decide]
  have r2 : fdr .quo .f64 4607182418800017408 9223372036854775808 = 0 := by decide
  have e2 : (FloatKind.f64.format.order 18442240474082181120 0 == some .lt) = true := by decide
  go_enter Tryz.func66, Tryz.ntmps66
  go_wp2_with fail
  refine (l1Finite_any _ _).mono ?_
  rintro e w1 ⟨rfl, n1, rfl⟩
  rw [hf]
  go_wp2_with fail
  all_goals
    go_ret
    exact ⟨rfl, (Nw.refl w).draw _⟩

end Go.Proofs.YtiakcibeobbonaaGreat
