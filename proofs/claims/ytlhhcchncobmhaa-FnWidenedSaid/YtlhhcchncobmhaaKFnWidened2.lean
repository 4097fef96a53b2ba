/- Texts of a proof, put together: Quo, Beat, Body, Sps, Small, Step, Ring, RingB, StepD, RingD, Drift, Same, Rec, Wide.
   Conditions: those that each statement names. -/
import Derived.Test.YtlhhcchncobmhaaKFnWidened1
import Derived.StillTailTactics
/- Plain facts: the quotient of numbers of moderate size exists, and its product with the divisor is near the dividend, as the law's test of it says.
   Conditions: those that each statement names. -/
namespace Go.Proofs.Ytlhhcchncobmhaa
set_option linter.unusedSimpArgs false
set_option linter.unusedVariables false
open Go Go.RowKit

theorem ra_ab (q : Rat) : Flo.Ab q (ra q) := by unfold ra Flo.Ab; split <;> grind
theorem ra_le {q B : Rat} (h : Flo.Ab q B) : ra q ≤ B := by unfold ra; unfold Flo.Ab at h; split <;> grind
theorem ra_or (q : Rat) : q = ra q ∨ q = -ra q := by unfold ra; split <;> grind

theorem abs_num (x : Nat) (h : Flo.Nm x) : Flo.Nm (Op.Complex.abs x) ∧ Flo.W (Op.Complex.abs x) = ra (Flo.W x) := by
  obtain ⟨s, m, p, hr⟩ := h
  have h1 := mod_read x
  rw [show FloatKind.f64.decode x = _ from hr] at h1
  have h2 : Ieee.double.read (Op.Complex.abs x) = .number false m p := h1
  refine ⟨⟨_, _, _, h2⟩, ?_⟩
  rw [show Flo.W (Op.Complex.abs x) = _ from Flo.V_eq h2, show Flo.W x = _ from Flo.V_eq hr]
  have hmp : 0 ≤ (m : Rat) * Flo.pw p := by
    have a1 : (0 : Rat) ≤ m := by exact_mod_cast Nat.zero_le m
    exact Rat.mul_nonneg a1 (Rat.le_of_lt (Flo.pw_pos p))
  unfold Flo.val ra
  cases s
  · simp only [Bool.false_eq_true, if_false]; rw [if_neg (by grind)]
  · simp only [if_true, Bool.false_eq_true, if_false]; split <;> grind

theorem absGe_iff (c d : Nat) (hc : Flo.Nm c) (hd : Flo.Nm d) : absGe c d = true ↔ ra (Flo.W d) ≤ ra (Flo.W c) := by
  have lc := abs_num c hc
  have ld := abs_num d hd
  have o := Flo.order_num Ieee.double _ _ lc.1 ld.1
  rw [show Flo.V Ieee.double (Op.Complex.abs c) = _ from lc.2, show Flo.V Ieee.double (Op.Complex.abs d) = _ from ld.2] at o
  unfold absGe
  rw [show FloatKind.f64.format = Ieee.double from rfl, Bool.or_eq_true, beq_iff_eq, beq_iff_eq, o.2.2, o.2.1]
  constructor
  · intro h; rcases h with h | h <;> grind
  · intro h; grind

theorem fA_some (op : BinOp) (a b : Nat) : fA op .f64 (some a) (some b) = floatBits op .f64 a b := rfl
theorem fab_num {x : Nat} (h : Flo.Nm x) : fab .f64 x = some x := fab_of_fin ((fin_iff .f64 x).2 h)
theorem fin_num {x : Nat} (h : Flo.Nm x) : fin .f64 x = true := (fin_iff .f64 x).2 h

/-- where the walk of the quotient's main road says so, the contract of DivideDouble says so -/
theorem divD_of_main (a b c d e f : Nat) (ha : Flo.Nm a) (hb : Flo.Nm b) (hc : Flo.Nm c) (hd : Flo.Nm d) (he : Flo.Nm e) (hf : Flo.Nm f)
    (hz : 0 < ra (Flo.W c) + ra (Flo.W d)) (h : cQuoBits a b c d = some (e, f)) : divD a b c d = some (e, f) := by
  have hq : qA a b c d = (some e, some f) := by
    unfold cQuoBits at h
    simp only at h
    obtain ⟨⟨e', f'⟩, hef, hfin⟩ := bind_some h
    simp only at hfin
    split at hfin
    · simp only [Option.some.injEq, Prod.mk.injEq] at hfin
      obtain ⟨rfl, rfl⟩ := hfin
      unfold qA
      split at hef
      · rename_i hge
        rw [if_pos hge]
        obtain ⟨r, h1, hef⟩ := bind_some hef
        obtain ⟨rd, h2, hef⟩ := bind_some hef
        obtain ⟨m, h3, hef⟩ := bind_some hef
        obtain ⟨br, h4, hef⟩ := bind_some hef
        obtain ⟨n1, h5, hef⟩ := bind_some hef
        obtain ⟨e', h6, hef⟩ := bind_some hef
        obtain ⟨ar, h7, hef⟩ := bind_some hef
        obtain ⟨n2, h8, hef⟩ := bind_some hef
        obtain ⟨f', h9, hef⟩ := bind_some hef
        simp only [Option.some.injEq, Prod.mk.injEq] at hef
        obtain ⟨rfl, rfl⟩ := hef
        simp only [fA_some, h1, h2, h3, h4, h5, h6, h7, h8, h9]
      · rename_i hge
        rw [if_neg hge]
        obtain ⟨r, h1, hef⟩ := bind_some hef
        obtain ⟨rd, h2, hef⟩ := bind_some hef
        obtain ⟨m, h3, hef⟩ := bind_some hef
        obtain ⟨br, h4, hef⟩ := bind_some hef
        obtain ⟨n1, h5, hef⟩ := bind_some hef
        obtain ⟨e', h6, hef⟩ := bind_some hef
        obtain ⟨ar, h7, hef⟩ := bind_some hef
        obtain ⟨n2, h8, hef⟩ := bind_some hef
        obtain ⟨f', h9, hef⟩ := bind_some hef
        simp only [Option.some.injEq, Prod.mk.injEq] at hef
        obtain ⟨rfl, rfl⟩ := hef
        simp only [fA_some, h1, h2, h3, h4, h5, h6, h7, h8, h9]
    · cases hfin
  have hz2 : ((FloatKind.f64.format.order c 0 == some .eq) && (FloatKind.f64.format.order d 0 == some .eq)) = false := by
    rw [Bool.and_eq_false_iff]
    have oc := (Flo.order_num Ieee.double c 0 hc zero_num.1).2.1
    have od := (Flo.order_num Ieee.double d 0 hd zero_num.1).2.1
    rw [show Flo.V Ieee.double 0 = 0 from zero_num.2] at oc od
    by_cases h0 : Flo.W c = 0
    · right
      have h1 : ¬ Flo.W d = 0 := by intro h1; rw [h0, h1] at hz; unfold ra at hz; grind
      have h2 : ¬ Ieee.double.order d 0 = some .eq := fun g => h1 (od.1 g)
      exact beq_eq_false_iff_ne.2 h2
    · left
      have h2 : ¬ Ieee.double.order c 0 = some .eq := fun g => h0 (oc.1 g)
      exact beq_eq_false_iff_ne.2 h2
  unfold divD
  rw [fin_num ha, fin_num hb, fin_num hc, fin_num hd, hz2, hq]
  simp [fin_num he, fin_num hf]

/-- the quotient of numbers of moderate size: with S the dividend's size, T the size's quotient by the divisor's greater part C -/
theorem quo_moderate (a b c d : Nat) (h1 : Moderate a b) (h2 : Moderate c d) :
    ∃ e f, divD a b c d = some (e, f) ∧ Flo.Nm e ∧ Flo.Nm f ∧ ∃ S T C : Rat, S = Flo.W (labs a) + Flo.W (labs b) ∧ T * C = S ∧ 0 < C ∧ Flo.Ab (Flo.W c) C ∧ Flo.Ab (Flo.W d) C ∧ Flo.Ab (Flo.W a) S ∧ Flo.Ab (Flo.W b) S ∧
      Flo.et ≤ Flo.u * (Flo.u * S) ∧ S ≤ Flo.pw 201 ∧ Flo.Ab (Flo.W e) (9 * T) ∧ Flo.Ab (Flo.W f) (9 * T) ∧
      Flo.Ab (Flo.W e * Flo.W c - Flo.W f * Flo.W d - Flo.W a) (124 * (Flo.u * S)) ∧ Flo.Ab (Flo.W e * Flo.W d + Flo.W f * Flo.W c - Flo.W b) (124 * (Flo.u * S)) := by
  obtain ⟨ax, bx, fa, fb, s1, s2, na', nb'⟩ := h1
  obtain ⟨cx, dx, fc, fd, t1, t2, nc', nd'⟩ := h2
  have na := Nm_of_fin fa
  have nb := Nm_of_fin fb
  have nc := Nm_of_fin fc
  have nd := Nm_of_fin fd
  rw [(labs_num a ax na).2, (labs_num b bx nb).2] at *
  rw [(labs_num c cx nc).2, (labs_num d dx nd).2] at t1 t2
  have a0 := ra_nonneg (Flo.W a)
  have b0 := ra_nonneg (Flo.W b)
  have c0 := ra_nonneg (Flo.W c)
  have d0 := ra_nonneg (Flo.W d)
  have haS : Flo.Ab (Flo.W a) (ra (Flo.W a) + ra (Flo.W b)) := (ra_ab _).mono (by grind)
  have hbS : Flo.Ab (Flo.W b) (ra (Flo.W a) + ra (Flo.W b)) := (ra_ab _).mono (by grind)
  generalize hS : ra (Flo.W a) + ra (Flo.W b) = S at *
  have p201 := Flo.pw_pos (-201)
  have hu : Flo.u = Flo.pw (-53) := rfl
  -- the greater part of the divisor
  have key : ∀ C : Rat, Flo.pw (-202) ≤ C → C ≤ Flo.pw 201 → ∃ T, T * C = S ∧ 0 < C ∧ 4 * C < Flo.pw 1023 ∧ 8 * S < Flo.pw 1022 ∧ 8 * T < Flo.pw 1022 ∧ Flo.et ≤ Flo.u * C ∧ Flo.et ≤ Flo.u * S ∧ Flo.et ≤ Flo.u * T ∧ Flo.et ≤ Flo.u * (Flo.u * S) := by
    intro C g1 g2
    have hC : 0 < C := by have := Flo.pw_pos (-202); grind
    have hT : S / C * C = S := by grind
    have u0 := Flo.u_pos
    have e1 : Flo.pw 203 = 4 * Flo.pw 201 := by rw [show (203 : Int) = 201 + 1 + 1 from rfl, Flo.pw_succ, Flo.pw_succ]; grind
    have e2 : Flo.pw 203 < Flo.pw 1023 := Flo.pw_lt (by omega)
    have e3 : Flo.pw 204 = 2 * Flo.pw 203 := by rw [show (204 : Int) = 203 + 1 from rfl, Flo.pw_succ]
    have e4 : Flo.pw 204 < Flo.pw 1022 := Flo.pw_lt (by omega)
    have e5 : Flo.pw 406 = 8 * Flo.pw 403 := by rw [show (406 : Int) = 403 + 1 + 1 + 1 from rfl, Flo.pw_succ, Flo.pw_succ, Flo.pw_succ]; grind
    have e6 : Flo.pw 406 < Flo.pw 1022 := Flo.pw_lt (by omega)
    have t3 : S / C ≤ Flo.pw 403 := by
      have : S / C * C ≤ Flo.pw 403 * C := by
        rw [hT]
        have k1 := Rat.mul_le_mul_of_nonneg_left g1 (Rat.le_of_lt (Flo.pw_pos 403))
        rw [← Flo.pw_add, show (403 + -202 : Int) = 201 from rfl] at k1
        grind
      exact Rat.le_of_mul_le_mul_right this hC
    have t4 : Flo.pw (-402) ≤ S / C := by
      have : Flo.pw (-402) * C ≤ S / C * C := by
        rw [hT]
        have k1 := Rat.mul_le_mul_of_nonneg_left g2 (Rat.le_of_lt (Flo.pw_pos (-402)))
        rw [← Flo.pw_add, show (-402 + 201 : Int) = -201 from rfl] at k1
        grind
      exact Rat.le_of_mul_le_mul_right this hC
    refine ⟨S / C, hT, hC, by grind, by grind, by grind, ?_, ?_, ?_, ?_⟩
    · have k1 := Rat.mul_le_mul_of_nonneg_left g1 (Rat.le_of_lt u0)
      rw [hu, ← Flo.pw_add] at k1
      have k2 : Flo.pw (-1074) ≤ Flo.pw (-53 + -202) := Flo.pw_le (by omega)
      unfold Flo.et; rw [hu]; grind
    · have k1 := Rat.mul_le_mul_of_nonneg_left s1 (Rat.le_of_lt u0)
      rw [hu, ← Flo.pw_add] at k1
      have k2 : Flo.pw (-1074) ≤ Flo.pw (-53 + -201) := Flo.pw_le (by omega)
      unfold Flo.et; rw [hu]; grind
    · have k1 := Rat.mul_le_mul_of_nonneg_left t4 (Rat.le_of_lt u0)
      rw [hu, ← Flo.pw_add] at k1
      have k2 : Flo.pw (-1074) ≤ Flo.pw (-53 + -402) := Flo.pw_le (by omega)
      unfold Flo.et; rw [hu]; grind
    · have k1 := Rat.mul_le_mul_of_nonneg_left s1 (Rat.le_of_lt u0)
      have k3 := Rat.mul_le_mul_of_nonneg_left k1 (Rat.le_of_lt u0)
      rw [hu, ← Flo.pw_add, ← Flo.pw_add] at k3
      have k2 : Flo.pw (-1074) ≤ Flo.pw (-53 + (-53 + -201)) := Flo.pw_le (by omega)
      unfold Flo.et; rw [hu]; grind
  have e202 : Flo.pw (-201) = 2 * Flo.pw (-202) := by rw [← Flo.pw_succ]; rfl
  cases hge : absGe c d with
  | true =>
    have hle := (absGe_iff c d nc nd).1 hge
    obtain ⟨T, hT, hC, k1, k2, k3, k4, k5, k6, k7⟩ := key (ra (Flo.W c)) (by grind) (by grind)
    obtain ⟨e, f, q1, q2, q3, q4, q5, q6, q7⟩ := Flo.quo_ge a b c d na nb nc nd S T _ (ra_or _) hC k1 ((ra_ab _).mono hle) haS hbS k2 hT k3 k4 k5 k6 hge
    exact ⟨e, f, divD_of_main a b c d e f na nb nc nd q2 q3 (by grind) q1, q2, q3, S, T, _, rfl, hT, hC, ra_ab _, (ra_ab _).mono hle, haS, hbS, k7, s2, q4, q5, q6, q7⟩
  | false =>
    have hlt : ra (Flo.W c) ≤ ra (Flo.W d) := by
      have : ¬ ra (Flo.W d) ≤ ra (Flo.W c) := fun g => by rw [(absGe_iff c d nc nd).2 g] at hge; cases hge
      grind
    obtain ⟨T, hT, hC, k1, k2, k3, k4, k5, k6, k7⟩ := key (ra (Flo.W d)) (by grind) (by grind)
    obtain ⟨e, f, q1, q2, q3, q4, q5, q6, q7⟩ := Flo.quo_lt a b c d na nb nc nd S T _ (ra_or _) hC k1 ((ra_ab _).mono hlt) haS hbS k2 hT k3 k4 k5 k6 hge
    exact ⟨e, f, divD_of_main a b c d e f na nb nc nd q2 q3 (by grind) q1, q2, q3, S, T, _, rfl, hT, hC, (ra_ab _).mono hlt, ra_ab _, haS, hbS, k7, s2, q4, q5, q6, q7⟩

/-- a product of a quotient's parts with the divisor's, each rounded, and their sum: in units of 'u S' -/
theorem part_ok (e c f d : Nat) (he : Flo.Nm e) (hc : Flo.Nm c) (hf : Flo.Nm f) (hd : Flo.Nm d) (S T C : Rat) (hT : T * C = S)
    (hcC : Flo.Ab (Flo.W c) C) (hdC : Flo.Ab (Flo.W d) C) (heT : Flo.Ab (Flo.W e) (9 * T)) (hfT : Flo.Ab (Flo.W f) (9 * T)) (hS : S ≤ Flo.pw 201) (het : Flo.et ≤ Flo.u * (Flo.u * S)) (hS0 : 0 ≤ S) :
    ∃ x y, floatBits .mul .f64 e c = some x ∧ floatBits .mul .f64 f d = some y ∧ Flo.Nm x ∧ Flo.Nm y ∧ Flo.Ab (Flo.W x - Flo.W e * Flo.W c) (10 * (Flo.u * S)) ∧ Flo.Ab (Flo.W y - Flo.W f * Flo.W d) (10 * (Flo.u * S)) ∧
      Flo.Ab (Flo.W x) (10 * S) ∧ Flo.Ab (Flo.W y) (10 * S) := by
  have u0 := Flo.u_pos
  have u1 := Flo.u_le
  have hbig : 32 * Flo.pw 201 < Flo.pw 1023 := by
    have e1 : Flo.pw 206 = 32 * Flo.pw 201 := by rw [show (206 : Int) = 5 + 201 from rfl, Flo.pw_add, show Flo.pw 5 = 32 from Flo.pw_nat 5]
    have e2 : Flo.pw 206 < Flo.pw 1023 := Flo.pw_lt (by omega)
    grind
  have huS : Flo.u * S ≤ S / 1048576 := by
    have := Rat.mul_le_mul_of_nonneg_right u1 hS0; grind
  have huS0 := Rat.mul_nonneg (Rat.le_of_lt u0) hS0
  have huuS : Flo.u * (Flo.u * S) ≤ (Flo.u * S) / 1048576 := by
    have := Rat.mul_le_mul_of_nonneg_right u1 huS0; grind
  have m1 : Flo.Ab (Flo.W e * Flo.W c) (9 * S) := (heT.mul hcC).mono (by rw [← hT]; grind)
  have m2 : Flo.Ab (Flo.W f * Flo.W d) (9 * S) := (hfT.mul hdC).mono (by rw [← hT]; grind)
  obtain ⟨x, x1, x2, x3⟩ := Flo.d_mul e c he hc (9 * S) m1 (by grind)
  obtain ⟨y, y1, y2, y3⟩ := Flo.d_mul f d hf hd (9 * S) m2 (by grind)
  have x3' : Flo.Ab (Flo.W x - Flo.W e * Flo.W c) (10 * (Flo.u * S)) := x3.mono (by grind)
  have y3' : Flo.Ab (Flo.W y - Flo.W f * Flo.W d) (10 * (Flo.u * S)) := y3.mono (by grind)
  exact ⟨x, y, x1, y1, x2, y2, x3', y3', ((x3'.add m1).eq (by grind)).mono (by grind), ((y3'.add m2).eq (by grind)).mono (by grind)⟩

/-- what is left of a part, measured: in units of 'u S' -/
theorem rest_ok (p a : Nat) (hp : Flo.Nm p) (ha : Flo.Nm a) (hp64 : p < 2 ^ 64) (S : Rat) (k : Rat) (hk0 : 0 ≤ k) (hk : k ≤ 1000) (h : Flo.Ab (Flo.W p - Flo.W a) (k * (Flo.u * S))) (hS : S ≤ Flo.pw 201) (het : Flo.et ≤ Flo.u * (Flo.u * S)) (hS0 : 0 ≤ S) :
    ∃ d, floatBits .sub .f64 p a = some d ∧ d < 2 ^ 64 ∧ Flo.Nm d ∧ Flo.Nm (labs d) ∧ 0 ≤ Flo.W (labs d) ∧ Flo.W (labs d) ≤ (k + 1) * (Flo.u * S) := by
  have u0 := Flo.u_pos
  have u1 := Flo.u_le
  have huS0 := Rat.mul_nonneg (Rat.le_of_lt u0) hS0
  have huS : Flo.u * S ≤ S / 1048576 := by
    have := Rat.mul_le_mul_of_nonneg_right u1 hS0; grind
  have huuS : Flo.u * (Flo.u * S) ≤ (Flo.u * S) / 1048576 := by
    have := Rat.mul_le_mul_of_nonneg_right u1 huS0; grind
  have huuS0 := Rat.mul_nonneg (Rat.le_of_lt u0) huS0
  have hk1 := Rat.mul_le_mul_of_nonneg_right hk huS0
  have hk2 := Rat.mul_le_mul_of_nonneg_right hk huuS0
  have hbig : Flo.pw 201 < Flo.pw 1023 := Flo.pw_lt (by omega)
  obtain ⟨d, d1, d2, d3⟩ := Flo.d_sub p a hp ha _ h (by grind)
  have hd64 : d < 2 ^ 64 := by have := floatBits_wf d1; simpa [Lit.wf] using this
  have l := labs_num d hd64 d2
  have hb : Flo.Ab (Flo.W d) ((k + 1) * (Flo.u * S)) := ((d3.add h).eq (show Flo.W d - (Flo.W p - Flo.W a) + (Flo.W p - Flo.W a) = Flo.W d by grind)).mono (by grind)
  exact ⟨d, d1, hd64, d2, l.1, by rw [l.2]; exact ra_nonneg _, by rw [l.2]; exact ra_le hb⟩

/-- what is left of the dividend, measured: at most 340 units of 'u S' -/
theorem diff_ok (a b c d e f p q : Nat) (h1 : Moderate a b) (h2 : Moderate c d) (hdiv : divD a b c d = some (e, f))
    (hp : fab .f64 p = mulRe (fab .f64 e) (fab .f64 f) (fab .f64 c) (fab .f64 d)) (hq : fab .f64 q = mulIm (fab .f64 e) (fab .f64 f) (fab .f64 c) (fab .f64 d)) (hp64 : p < 2 ^ 64) (hq64 : q < 2 ^ 64) :
    ∃ d1 d2 s, floatBits .sub .f64 p a = some d1 ∧ floatBits .sub .f64 q b = some d2 ∧ floatBits .add .f64 (labs d1) (labs d2) = some s ∧ Flo.Nm s ∧ Flo.W s ≤ 340 * (Flo.u * (Flo.W (labs a) + Flo.W (labs b))) := by
  obtain ⟨e', f', hdiv', ne, nf, S, T, C, hS, hT, hC, hcC, hdC, haS, hbS, het, hS201, heT, hfT, g1, g2⟩ := quo_moderate a b c d h1 h2
  rw [hdiv] at hdiv'
  simp only [Option.some.injEq, Prod.mk.injEq] at hdiv'
  obtain ⟨rfl, rfl⟩ := hdiv'
  obtain ⟨ax, bx, fa, fb, s1, s2, nla, nlb⟩ := h1
  obtain ⟨cx, dx, fc, fd, -, -, -, -⟩ := h2
  have na := Nm_of_fin fa
  have nb := Nm_of_fin fb
  have nc := Nm_of_fin fc
  have nd := Nm_of_fin fd
  have u0 := Flo.u_pos
  have u1 := Flo.u_le
  have hS0 : 0 ≤ S := haS.nonneg
  have huS0 := Rat.mul_nonneg (Rat.le_of_lt u0) hS0
  have huS : Flo.u * S ≤ S / 1048576 := by
    have := Rat.mul_le_mul_of_nonneg_right u1 hS0; grind
  have huuS : Flo.u * (Flo.u * S) ≤ (Flo.u * S) / 1048576 := by
    have := Rat.mul_le_mul_of_nonneg_right u1 huS0; grind
  have hbig : 32 * Flo.pw 201 < Flo.pw 1023 := by
    have e1 : Flo.pw 206 = 32 * Flo.pw 201 := by rw [show (206 : Int) = 5 + 201 from rfl, Flo.pw_add, show Flo.pw 5 = 32 from Flo.pw_nat 5]
    have e2 : Flo.pw 206 < Flo.pw 1023 := Flo.pw_lt (by omega)
    grind
  have et0 := Flo.et_pos
  -- the two parts of the product
  obtain ⟨x, y, x1, y1, x2, y2, x3, y3, x4, y4⟩ := part_ok e c f d ne nc nf nd S T C hT hcC hdC heT hfT hS201 het hS0
  obtain ⟨v, z, v1, z1, v2, z2, v3, z3, v4, z4⟩ := part_ok e d f c ne nd nf nc S T C hT hdC hcC heT hfT hS201 het hS0
  obtain ⟨p', p1, p2, p3⟩ := Flo.d_sub x y x2 y2 (20 * S) ((x4.sub y4).mono (by grind)) (by grind)
  obtain ⟨q', q1, q2, q3⟩ := Flo.d_add v z v2 z2 (20 * S) ((v4.add z4).mono (by grind)) (by grind)
  have ep : p = p' := by
    rw [fab_num ne, fab_num nf, fab_num nc, fab_num nd] at hp
    unfold mulRe at hp
    rw [fA_some, fA_some, x1, y1, fA_some, p1, ← fab_num p2] at hp
    rw [fab_num p2] at hp
    unfold fab at hp
    split at hp
    · cases hp
    · simpa using hp
  have eq : q = q' := by
    rw [fab_num ne, fab_num nf, fab_num nc, fab_num nd] at hq
    unfold mulIm at hq
    rw [fA_some, fA_some, v1, z1, fA_some, q1, ← fab_num q2] at hq
    rw [fab_num q2] at hq
    unfold fab at hq
    split at hq
    · cases hq
    · simpa using hq
  subst ep eq
  have P : Flo.Ab (Flo.W p - Flo.W a) (166 * (Flo.u * S)) := (((p3.add (x3.sub y3)).add g1).eq (by grind)).mono (by grind)
  have Q : Flo.Ab (Flo.W q - Flo.W b) (166 * (Flo.u * S)) := (((q3.add (v3.add z3)).add g2).eq (by grind)).mono (by grind)
  obtain ⟨d1, i1, i2, i3, i4, i5, i6⟩ := rest_ok p a p2 na hp64 S 166 (by grind) (by grind) P hS201 het hS0
  obtain ⟨d2, j1, j2, j3, j4, j5, j6⟩ := rest_ok q b q2 nb hq64 S 166 (by grind) (by grind) Q hS201 het hS0
  obtain ⟨s, r1, r2, r3⟩ := Flo.d_add (labs d1) (labs d2) i4 j4 (334 * (Flo.u * S)) ⟨by grind, by grind⟩ (by grind)
  refine ⟨d1, d2, s, i1, j1, r1, r2, ?_⟩
  rw [← hS]
  unfold Flo.Ab at r3
  grind

/-- THE LAW's TEST OF THE QUOTIENT. -/
theorem small_ok (a b c d e f p q k : Nat) (w1 w2 w3 w4 : World) (h1 : Moderate a b) (h2 : Moderate c d) (hdiv : divD a b c d = some (e, f))
    (hp : fab .f64 p = mulRe (fab .f64 e) (fab .f64 f) (fab .f64 c) (fab .f64 d)) (hq : fab .f64 q = mulIm (fab .f64 e) (fab .f64 f) (fab .f64 c) (fab .f64 d)) (hp64 : p < 2 ^ 64) (hq64 : q < 2 ^ 64)
    (hk : Flo.Nm k) (hk44 : Flo.W k = Flo.pw (-((44 : Nat) : Int))) :
    (FloatKind.f64.format.order (fres w3 .add .f64 (labs (fres w1 .sub .f64 p a)) (labs (fres w2 .sub .f64 q b))) (fres w4 .mul .f64 (szd a b) k) == some .lt ||
      FloatKind.f64.format.order (fres w3 .add .f64 (labs (fres w1 .sub .f64 p a)) (labs (fres w2 .sub .f64 q b))) (fres w4 .mul .f64 (szd a b) k) == some .eq) = true := by
  obtain ⟨d1, d2, s, i1, j1, r1, r2, hhigh⟩ := diff_ok a b c d e f p q h1 h2 hdiv hp hq hp64 hq64
  obtain ⟨ax, bx, fa, fb, s1, s2, nla, nlb⟩ := h1
  have na := Nm_of_fin fa
  have nb := Nm_of_fin fb
  have u0 := Flo.u_pos
  have u1 := Flo.u_le
  have p201 := Flo.pw_pos (-201)
  generalize hS : Flo.W (labs a) + Flo.W (labs b) = S at *
  have hS0 : 0 ≤ S := by grind
  have huS0 := Rat.mul_nonneg (Rat.le_of_lt u0) hS0
  have huS : Flo.u * S ≤ S / 1048576 := by
    have := Rat.mul_le_mul_of_nonneg_right u1 hS0; grind
  have huuS : Flo.u * (Flo.u * S) ≤ (Flo.u * S) / 1048576 := by
    have := Rat.mul_le_mul_of_nonneg_right u1 huS0; grind
  have het : Flo.et ≤ Flo.u * (Flo.u * S) := by
    have k1 := Rat.mul_le_mul_of_nonneg_left s1 (Rat.le_of_lt u0)
    have k3 := Rat.mul_le_mul_of_nonneg_left k1 (Rat.le_of_lt u0)
    rw [show Flo.u = Flo.pw (-53) from rfl, ← Flo.pw_add, ← Flo.pw_add] at k3
    have k2 : Flo.pw (-1074) ≤ Flo.pw (-53 + (-53 + -201)) := Flo.pw_le (by omega)
    unfold Flo.et; rw [show Flo.u = Flo.pw (-53) from rfl]; grind
  have hbig : 32 * Flo.pw 201 < Flo.pw 1023 := by
    have e1 : Flo.pw 206 = 32 * Flo.pw 201 := by rw [show (206 : Int) = 5 + 201 from rfl, Flo.pw_add, show Flo.pw 5 = 32 from Flo.pw_nat 5]
    have e2 : Flo.pw 206 < Flo.pw 1023 := Flo.pw_lt (by omega)
    grind
  have et0 := Flo.et_pos
  -- the bound
  have hsz := szd_eq a b ax bx na nb
  obtain ⟨sz, o1, o2, o3⟩ := Flo.d_add (labs a) (labs b) nla nlb S ⟨by rw [hS]; grind, by rw [hS]; exact Rat.le_refl⟩ (by grind)
  rw [hsz] at o1
  simp only [Option.some.injEq] at o1
  rw [o1] at *
  rw [hS] at o3
  have e44 : Flo.W k = 512 * Flo.u := by
    rw [hk44, show (-((44 : Nat) : Int)) = 9 + -53 from rfl, Flo.pw_add, show Flo.pw 9 = 512 from Flo.pw_nat 9]; rfl
  have hkA : Flo.Ab (Flo.W k) (512 * Flo.u) := by rw [e44]; unfold Flo.Ab; grind
  have hszA : Flo.Ab (Flo.W sz) (2 * S) := ((o3.add (show Flo.Ab S S from ⟨by grind, by grind⟩)).eq (show Flo.W sz - S + S = Flo.W sz by grind)).mono (by grind)
  obtain ⟨k', t1, t2, t3⟩ := Flo.d_mul sz k o2 hk (2 * S * (512 * Flo.u)) (hszA.mul hkA) (by grind)
  have hlow : 500 * (Flo.u * S) ≤ Flo.W k' := by
    rw [e44] at t3
    have m1 : S - 2 * (Flo.u * S) ≤ Flo.W sz := by unfold Flo.Ab at o3; grind
    have m2 := Rat.mul_le_mul_of_nonneg_right m1 (show (0 : Rat) ≤ 512 * Flo.u by grind)
    unfold Flo.Ab at t3
    grind
  have fr1 : fres w1 .sub .f64 p a = d1 := by unfold fres; rw [i1]
  have fr2 : fres w2 .sub .f64 q b = d2 := by unfold fres; rw [j1]
  have fr3 : fres w3 .add .f64 (labs d1) (labs d2) = s := by unfold fres; rw [r1]
  have fr4 : fres w4 .mul .f64 sz k = k' := by unfold fres; rw [t1]
  rw [fr1, fr2, fr3, fr4, show FloatKind.f64.format = Ieee.double from rfl, Bool.or_eq_true, beq_iff_eq, beq_iff_eq]
  have o := Flo.order_num Ieee.double s k' r2 t2
  rw [o.1, o.2.1]
  show Flo.W s < Flo.W k' ∨ Flo.W s = Flo.W k'
  have : Flo.W s ≤ Flo.W k' := by grind
  grind

end Go.Proofs.Ytlhhcchncobmhaa

/- The walks of MakeMode, and of the program's IsMode, BeatOf and BeatPeriod on valid modes.
   Conditions: those that each statement names. -/
namespace Go.Proofs.Ytlhhcchncobmhaa
set_option linter.unusedSimpArgs false
set_option linter.unusedVariables false
open Go Go.RowKit

theorem Kp.nw {c : Nat} {w w' : World} (h : Kp c w w') (hc : w.heap.size ≤ c) : Nw w w' :=
  ⟨h.os, h.tape, h.output, h.size, fun k hk _ => h.block k hk (fun e => by cases e; omega)⟩

def Valid (pr pi gr gi : Nat) : Prop := modeB pr pi gr gi labs = true
theorem valid_const : Valid 1056964608 1048576000 1065353216 0 := by unfold Valid; decide +kernel

theorem makeMode_any (a : Option Addr) (len cap : Nat) (w : World) (hb : Bys w.heap.size a len w) :
    Calls Try.prog 36 #[.slice a len cap] w (ModeP Valid w) := by
  have Hb := Lib.hid hb
  clear hb
  have hsz : ∀ o, (w.alloc o).heap.size = w.heap.size + 1 := fun o => by simp
  have Hsz := Lib.hid hsz
  clear hsz
  go_enter Try.func36, Try.ntmps36
  go_wp2_with fail
  refine (l01New_any _ _ _ _ ((Hb.out.below ((Below.refl _ _).alloc (Nat.le_refl _) _)).mono (by simp))).mono ?_
  rintro e w1 ⟨rfl, hat⟩
  rw [Hsz.out] at hat
  have Hr1 := Lib.hid ((HasMode.new w 61 0 0 0 0).kp hat.2 (by omega))
  have Hn1 := Lib.hid ((((Nw.refl w).alloc (.cells #[.complex .f32 0 0, .complex .f32 0 0] 61 (0, 0))).trans (hat.2.nw (by simp))))
  have Hat := Lib.hid hat
  clear hat
  go_wp2_with fail
  refine (l2Mode_at _ _ _ _ _ _ _ Hat.out.here).mono ?_
  rintro e w2 ⟨pr, pi, gr, gi, rfl, hc2⟩
  have Hr2 := Lib.hid (Hr1.out.kp hc2.2 (by omega))
  have Hn2 := Lib.hid (show Nw w w2 from ⟨hc2.2.os.trans Hn1.out.os, hc2.2.tape.trans Hn1.out.tape, hc2.2.output.trans Hn1.out.output, Nat.le_trans Hn1.out.size hc2.2.size,
    fun k hk hne => (hc2.2.block k (Nat.lt_of_lt_of_le hk Hn1.out.size) (fun e => by cases e; omega)).trans (Hn1.out.block k hk hne)⟩)
  clear hc2
  go_wp2_with fail
  refine (specMode_any _ _ _ _ _).mono ?_
  rintro e w3 ⟨rfl, hn3⟩
  have Hr3 := Lib.hid ((Hr2.out.alloc (.cells #[.complex .f32 pr pi, .complex .f32 gr gi] 61 (0, 0))).nw hn3)
  have Hm3 := Lib.hid ((HasMode.new w2 61 pr pi gr gi).nw hn3)
  have Hn3 := Lib.hid ((Hn2.out.alloc (.cells #[.complex .f32 pr pi, .complex .f32 gr gi] 61 (0, 0))).trans hn3)
  clear hn3
  obtain ⟨hr0, hr1, hr2, hr3, hr4⟩ := Hr3.out
  obtain ⟨hm0, hm1, hm2, hm3, hm4⟩ := Hm3.out
  cases hv : modeB pr pi gr gi labs
  · go_wp2
    exact bodyPost_ret (v := .agg #[.complex .f32 1056964608 1048576000, .complex .f32 1065353216 0]) (by simp [results, Try.results36, go_sem, hr0, hr1, hr2]) rfl
      ⟨_, _, _, _, rfl, valid_const, (Hn3.out.set (Nat.le_refl _) _).set (Nat.le_refl _) _⟩
  · go_wp2
    exact bodyPost_ret (v := .agg #[.complex .f32 pr pi, .complex .f32 gr gi]) (by simp [results, Try.results36, go_sem, hr0, hr1, hr2]) rfl
      ⟨_, _, _, _, rfl, hv, (Hn3.out.set (Nat.le_refl _) _).set (Nat.le_refl _) _⟩

theorem quiet_eq {P : Program} {f : FuncId} {args : Array Value} {w : World} {n : Nat} {v : Value}
    (h : Calls P f args (w.drewN n) fun e w' => e = .returned v ∧ w.drewN n = w') : Calls P f args (w.drewN n) fun e w'' => e = .returned v ∧ ∃ m, w'' = w.drewN m :=
  h.mono fun _ _ ⟨he, hm⟩ => ⟨he, n, hm.symm⟩

/-! ### the program's own functions on valid modes -/
/-- what is known of a valid mode, in numbers -/
theorem Valid.parts {pr pi gr gi : Nat} (h : Valid pr pi gr gi) :
    fin .f32 pr = true ∧ fin .f32 pi = true ∧ fin .f32 gr = true ∧ fin .f32 gi = true ∧ leB (sqr (wid pr) (wid pi)) 4607182418800017408 = true ∧ leB (labs (wid gr)) 4652218415073722368 = true ∧ leB (labs (wid gi)) 4652218415073722368 = true := by
  unfold Valid modeB at h
  simp only [Bool.and_eq_true] at h
  exact ⟨h.1.1.1.1, h.1.1.1.2, h.1.1.2.1, h.1.1.2.2, h.1.2, h.2.1, h.2.2⟩

/-- the two absolute values are the same number, so the tests agree -/
theorem leB_abs {x k : Nat} (hx : x < 2 ^ 64) (h : Flo.Nm x) (hk : Flo.Nm k) : leB (x % signBit) k = leB (labs x) k := by
  have l := labs_num x hx h
  have r := abs_num x h
  rw [show Op.Complex.abs x = x % signBit from rfl] at r
  have i1 := leB_iff r.1 hk
  have i2 := leB_iff l.1 hk
  rw [r.2] at i1
  rw [l.2] at i2
  cases h1 : leB (x % signBit) k <;> cases h2 : leB (labs x) k <;> simp_all

theorem num_1024 : Flo.Nm 4652218415073722368 := ⟨false, 4503599627370496, -42, by decide⟩

theorem implWiden_fin (x y : Nat) (w : World) (hx : Sm x) (hy : Sm y) :
    Calls Try.prog 79 #[.complex .f32 x y] w fun e w' => e = .returned (.complex .f64 (wid x) (wid y)) ∧ w = w' := by
  have a1 := fcv_up hx
  have a2 := fcv_up hy
  have b1 := fcd_up hx
  have b2 := fcd_up hy
  go_enter Try.func79, Try.ntmps79
  go_wp2
  go_ret
  exact ⟨rfl, rfl⟩

theorem fin_wid {b : Nat} (h : Sm b) : fin .f64 (wid b) = true := (fin_iff' .f64 _).2 (wid_num h).1

theorem isModeOf_valid (pr pi gr gi : Nat) (w : World) (h : Valid pr pi gr gi) :
    Calls Try.prog 113 #[.complex .f64 (wid pr) (wid pi), .complex .f64 (wid gr) (wid gi)] w fun e w' => e = .returned (.bool true) ∧ w = w' := by
  obtain ⟨h1, h2, h3, h4, h5, h6, h7⟩ := h.parts
  have S1 := Sm_of h1
  have S2 := Sm_of h2
  have S3 := Sm_of h3
  have S4 := Sm_of h4
  obtain ⟨a, b, m1, m2, m3, -, -⟩ := sqr_num S1 S2
  have f1 : ∀ w, fres w .mul .f64 (wid pr) (wid pr) = a := fun w => by unfold fres; rw [m1]
  have f2 : ∀ w, fres w .mul .f64 (wid pi) (wid pi) = b := fun w => by unfold fres; rw [m2]
  have f3 : ∀ w, fres w .add .f64 a b = sqr (wid pr) (wid pi) := fun w => by unfold fres; rw [m3]
  have d1 : fdr .mul .f64 (wid pr) (wid pr) = 0 := by unfold fdr; rw [m1]; rfl
  have d2 : fdr .mul .f64 (wid pi) (wid pi) = 0 := by unfold fdr; rw [m2]; rfl
  have d3 : fdr .add .f64 a b = 0 := by unfold fdr; rw [m3]; rfl
  rw [← leB_abs (wid_lt _) (wid_num S3).1 num_1024] at h6
  rw [← leB_abs (wid_lt _) (wid_num S4).1 num_1024] at h7
  have W1 := fin_wid S1
  have W2 := fin_wid S2
  have W3 := fin_wid S3
  have W4 := fin_wid S4
  unfold leB at h5 h6 h7
  clear m1 m2 m3 h S1 S2 S3 S4
  go_enter Try.func113, Try.ntmps113
  go_wp2_with (first
    | (go_at_call 98; refine (implFinite_any _ _ _ (wid_lt _) (wid_lt _)).mono ?_; rintro e w' ⟨rfl, rfl⟩)
    | (go_at_call 101; refine (abs_any _ _ (wid_lt _)).mono ?_; rintro e w' ⟨rfl, rfl⟩))
  all_goals (go_ret; exact ⟨by simp [h5, h6, h7], rfl⟩)

theorem implIsMode_valid (pr pi gr gi : Nat) (w : World) (h : Valid pr pi gr gi) :
    Calls Try.prog 110 #[.agg #[.complex .f32 pr pi, .complex .f32 gr gi]] w (TestP true w) := by
  have H := Lib.hid h
  obtain ⟨h1, h2, h3, h4, -, -, -⟩ := h.parts
  have S1 := Lib.hid (Sm_of h1)
  have S2 := Lib.hid (Sm_of h2)
  have S3 := Lib.hid (Sm_of h3)
  have S4 := Lib.hid (Sm_of h4)
  clear h h1 h2 h3 h4
  go_enter Try.func110, Try.ntmps110
  go_wp2_with fail
  go_quiet (first
    | (go_at_call 79; exact quiet_eq (implWiden_fin _ _ _ S1.out S2.out))
    | (go_at_call 79; exact quiet_eq (implWiden_fin _ _ _ S3.out S4.out))
    | (go_at_call 113; exact quiet_eq (isModeOf_valid _ _ _ _ _ H.out)))
  go_wp2
  go_ret
  exact ⟨rfl, ((Nw.refl _).alloc _).draw _⟩

/-- the poles of valid modes, widened, are of moderate size if their size is at least a small one -/
theorem square_nonneg (q : Rat) : 0 ≤ q * q := by
  rcases Rat.le_total (a := 0) (b := q) with h | h
  · exact Rat.mul_nonneg h h
  · have := Rat.mul_nonneg (show 0 ≤ -q by grind) (show 0 ≤ -q by grind); grind

theorem num_one : Flo.Nm 4607182418800017408 ∧ Flo.W 4607182418800017408 = 1 := by
  refine ⟨one_num.1, ?_⟩
  rw [one_num.2]; exact Flo.pw_zero

/-- a valid pole's square is at most 1, but for rounding -/
theorem Valid.square {pr pi gr gi : Nat} (h : Valid pr pi gr gi) : S pr * S pr + S pi * S pi ≤ 1 + 1 / 100000 := by
  obtain ⟨h1, h2, -, -, h5, -, -⟩ := h.parts
  obtain ⟨a, b, -, -, -, n, e⟩ := sqr_num (Sm_of h1) (Sm_of h2)
  have l := (leB_iff n num_one.1).1 h5
  rw [num_one.2] at l
  have q1 := square_nonneg (S pr)
  have q2 := square_nonneg (S pi)
  have hQ : 0 ≤ S pr * S pr + S pi * S pi := by grind
  generalize S pr * S pr + S pi * S pi = Q at *
  have u1 := Flo.u_le
  have eu : Flo.et ≤ Flo.u := Flo.pw_le (by omega)
  have := Rat.mul_le_mul_of_nonneg_left u1 hQ
  unfold Flo.Ab at e
  grind

theorem ra_sq (q : Rat) : ra q * ra q = q * q := by unfold ra; split <;> grind

/-- .. and the size of such a pole at most 3/2 -/
theorem Valid.size {pr pi gr gi : Nat} (h : Valid pr pi gr gi) : Flo.W (labs (wid pr)) + Flo.W (labs (wid pi)) ≤ 3 / 2 := by
  obtain ⟨h1, h2, -, -, -, -, -⟩ := h.parts
  obtain ⟨n1, v1⟩ := wid_num (Sm_of h1)
  obtain ⟨n2, v2⟩ := wid_num (Sm_of h2)
  rw [(labs_num _ (wid_lt _) n1).2, (labs_num _ (wid_lt _) n2).2, v1, v2]
  have hs := h.square
  rw [← ra_sq (S pr), ← ra_sq (S pi)] at hs
  have a0 := ra_nonneg (S pr)
  have b0 := ra_nonneg (S pi)
  generalize ra (S pr) = A at *
  generalize ra (S pi) = B at *
  have h3 := square_nonneg (A - B)
  rcases Rat.le_total (a := A + B) (b := 3 / 2) with g | g
  · exact g
  · have g2 := Rat.mul_le_mul_of_nonneg_left g (show 0 ≤ A + B by grind)
    have g3 := Rat.mul_le_mul_of_nonneg_right g (show (0 : Rat) ≤ 3 / 2 by grind)
    grind

theorem Valid.moderate {pr pi gr gi k : Nat} (h : Valid pr pi gr gi) (hk : Flo.Nm k) (vk : Flo.W k = Flo.pw (-((20 : Nat) : Int)))
    (ht : (FloatKind.f64.format.order (szd (wid pr) (wid pi)) k == some .lt) = false) : Moderate (wid pr) (wid pi) := by
  have hsz := h.size
  obtain ⟨h1, h2, -, -, -, -, -⟩ := h.parts
  obtain ⟨n1, v1⟩ := wid_num (Sm_of h1)
  obtain ⟨n2, v2⟩ := wid_num (Sm_of h2)
  obtain ⟨l1, l1v⟩ := labs_num _ (wid_lt pr) n1
  obtain ⟨l2, l2v⟩ := labs_num _ (wid_lt pi) n2
  have a0 : 0 ≤ Flo.W (labs (wid pr)) := by rw [l1v]; exact ra_nonneg _
  have b0 : 0 ≤ Flo.W (labs (wid pi)) := by rw [l2v]; exact ra_nonneg _
  have e2 : Flo.pw 2 = 4 := Flo.pw_nat 2
  have l1023 : Flo.pw 2 < Flo.pw 1023 := Flo.pw_lt (by omega)
  obtain ⟨r, r1, r2, r3⟩ := Flo.d_add _ _ l1 l2 (3 / 2) ⟨by grind, hsz⟩ (by grind)
  have hr : szd (wid pr) (wid pi) = r := by unfold szd; rw [r1]; rfl
  rw [hr, show FloatKind.f64.format = Ieee.double from rfl] at ht
  have o := (Flo.order_num Ieee.double r k r2 hk).1
  have g : ¬ Flo.W r < Flo.W k := fun g => by rw [o.2 g] at ht; exact absurd ht (by decide)
  rw [vk] at g
  have u1 : Flo.u ≤ Flo.pw (-25) := Flo.pw_le (by omega)
  have e1 : Flo.et ≤ Flo.pw (-25) := Flo.pw_le (by omega)
  have p25 : Flo.pw (-((20 : Nat) : Int)) = 32 * Flo.pw (-25) := by rw [show (-((20 : Nat) : Int)) = 5 + -25 from rfl, Flo.pw_add, show Flo.pw 5 = 32 from Flo.pw_nat 5]
  have q1 : Flo.pw (-201) ≤ Flo.pw (-25) := Flo.pw_le (by omega)
  have q2 : Flo.pw 2 ≤ Flo.pw 201 := Flo.pw_le (by omega)
  have q3 := Flo.pw_pos (-25)
  unfold Flo.Ab at r3
  exact ⟨wid_lt _, wid_lt _, fin_wid (Sm_of h1), fin_wid (Sm_of h2), by grind, by grind, l1, l2⟩

theorem num_16 : Flo.Nm 4589168020290535424 ∧ Flo.W 4589168020290535424 = 1 / 16 := by
  have h : Ieee.double.read 4589168020290535424 = .number false 4503599627370496 (-56) := by decide
  refine ⟨⟨_, _, _, h⟩, ?_⟩
  rw [show Flo.W 4589168020290535424 = _ from Flo.V_eq h]
  unfold Flo.val
  have := Flo.pw_neg_mul 56
  have e : Flo.pw 56 = 72057594037927936 := Flo.pw_nat 56
  rw [e] at this
  simp only [Bool.false_eq_true, if_false]
  have e2 : ((4503599627370496 : Nat) : Rat) = 4503599627370496 := rfl
  rw [e2]; grind

/-- A NUMBER's QUOTIENT BY ITSELF IS NEAR 1. -/
theorem one_ok (c d : Nat) (h : Moderate c d) : ∃ e f d1 d2 s, divD c d c d = some (e, f) ∧ floatBits .sub .f64 e 4607182418800017408 = some d1 ∧ floatBits .sub .f64 f 0 = some d2 ∧ d1 < 2 ^ 64 ∧ d2 < 2 ^ 64 ∧
    floatBits .add .f64 (d1 % signBit) (d2 % signBit) = some s ∧ leB s 4589168020290535424 = true := by
  obtain ⟨e, f, hdiv, ne, nf, S, T, C, hS, hT, hC, hcC, hdC, haS, hbS, het, hS201, heT, hfT, g1, g2⟩ := quo_moderate c d c d h h
  obtain ⟨cx, dx, fc, fd, s1, s2, nlc, nld⟩ := h
  have nc := Nm_of_fin fc
  have nd := Nm_of_fin fd
  have lc := (labs_num c cx nc).2
  have ld := (labs_num d dx nd).2
  rw [lc, ld] at hS s1
  rw [← hS] at s1
  have hSp : 0 < S := by have := Flo.pw_pos (-201); grind
  have u0 := Flo.u_pos
  have u1 := Flo.u_le
  have hD : S * S / 2 ≤ Flo.W c * Flo.W c + Flo.W d * Flo.W d := by
    rw [← ra_sq (Flo.W c), ← ra_sq (Flo.W d), hS]
    have := square_nonneg (ra (Flo.W c) - ra (Flo.W d))
    grind
  have hSS : 0 < S * S / 2 := by
    have := Rat.mul_pos hSp hSp
    grind
  have x1 : Flo.Ab ((Flo.W e - 1) * (Flo.W c * Flo.W c + Flo.W d * Flo.W d)) (496 * Flo.u * (S * S / 2)) := by
    have := (haS.mul g1).add (hbS.mul g2)
    refine (this.eq ?_).mono ?_
    · clear this; grind
    · clear this g1 g2; grind
  have y1 : Flo.Ab (Flo.W f * (Flo.W c * Flo.W c + Flo.W d * Flo.W d)) (496 * Flo.u * (S * S / 2)) := by
    have := (haS.mul g2).sub (hbS.mul g1)
    refine (this.eq ?_).mono ?_
    · clear this; grind
    · clear this g1 g2; grind
  have x2 := x1.div hSS hD
  have y2 := y1.div hSS hD
  have b1023 : (1 : Rat) < Flo.pw 1023 := by have := Flo.pw_lt (a := 0) (b := 1023) (by omega); rwa [Flo.pw_zero] at this
  have et0 := Flo.et_pos
  have etu : Flo.et ≤ Flo.u := Flo.pw_le (by omega)
  have uu : Flo.u * Flo.u ≤ Flo.u / 1048576 := by have := Rat.mul_le_mul_of_nonneg_left u1 (Rat.le_of_lt u0); grind
  obtain ⟨d1, p1, p2, p3⟩ := Flo.d_sub e 4607182418800017408 ne num_one.1 (496 * Flo.u) (by rw [num_one.2]; exact x2) (by grind)
  obtain ⟨d2, q1, q2, q3⟩ := Flo.d_sub f 0 nf zero_num.1 (496 * Flo.u) (by rw [zero_num.2]; exact y2.eq (by grind)) (by grind)
  rw [num_one.2] at p3
  rw [zero_num.2] at q3
  have p4 : Flo.Ab (Flo.W d1) (500 * Flo.u) := ((p3.add x2).eq (by grind)).mono (by grind)
  have q4 : Flo.Ab (Flo.W d2) (500 * Flo.u) := ((q3.add y2).eq (by grind)).mono (by grind)
  obtain ⟨a1, a1v⟩ := abs_num d1 p2
  obtain ⟨a2, a2v⟩ := abs_num d2 q2
  rw [show Op.Complex.abs d1 = d1 % signBit from rfl] at a1 a1v
  rw [show Op.Complex.abs d2 = d2 % signBit from rfl] at a2 a2v
  have r1 := ra_le p4
  have r2 := ra_le q4
  have r3 := ra_nonneg (Flo.W d1)
  have r4 := ra_nonneg (Flo.W d2)
  rw [← a1v] at r1 r3
  rw [← a2v] at r2 r4
  obtain ⟨s, t1, t2, t3⟩ := Flo.d_add _ _ a1 a2 (1000 * Flo.u) ⟨by grind, by grind⟩ (by grind)
  refine ⟨e, f, d1, d2, s, hdiv, p1, q1, ?_, ?_, t1, (leB_iff t2 num_16.1).2 ?_⟩
  · have := floatBits_wf p1; simpa [Lit.wf] using this
  · have := floatBits_wf q1; simpa [Lit.wf] using this
  · rw [num_16.2]
    unfold Flo.Ab at t3
    grind

/-! ### beats -/
theorem implDiv_some (a b c d e f : Nat) (w : World) (ha : a < 2 ^ 64) (hb : b < 2 ^ 64) (hc : c < 2 ^ 64) (hd : d < 2 ^ 64) (h : divD a b c d = some (e, f)) :
    Calls Try.prog 70 #[.complex .f64 a b, .complex .f64 c d] w fun en w' => en = .returned (.tuple #[.complex .f64 e f, .bool true]) ∧ ∃ m, w' = w.drewN m :=
  (implDiv_any a b c d w ha hb hc hd).mono fun _ _ g => ⟨by rw [g.1, h]; rfl, g.2⟩
def TupP (v : Value) (w : World) (e : Ending) (w' : World) : Prop := e = .returned v ∧ Nw w w'

theorem implSize_any (x y : Nat) (w : World) (hx : x < 2 ^ 64) (hy : y < 2 ^ 64) :
    Calls Try.prog 74 #[.complex .f64 x y] w fun e w' => e = .returned (.float .f64 (fres w .add .f64 (x % signBit) (y % signBit))) ∧ ∃ n, w' = w.drewN n := by
  go_enter Try.func74, Try.ntmps74
  go_wp2_with (go_at_call 101; refine (abs_any _ _ (by assumption)).mono ?_; rintro e w' ⟨rfl, rfl⟩)
  go_ret
  exact ⟨rfl, _, rfl⟩

end Go.Proofs.Ytlhhcchncobmhaa

/- The walk of what draws bodies: the result's modes are valid, and lie in memory of its own.
   Conditions: those that each statement names. -/
namespace Go.Proofs.Ytlhhcchncobmhaa
set_option linter.unusedSimpArgs false
set_option linter.unusedVariables false
open Go Go.RowKit

structure M4 where
  pr : Nat
  pi : Nat
  gr : Nat
  gi : Nat
def M4.ok (m : M4) : Prop := Valid m.pr m.pi m.gr m.gi
def M4.cells (m : M4) : List Value := [.complex .f32 m.pr m.pi, .complex .f32 m.gr m.gi]
def cellsM (ms : List M4) : List Value := ms.flatMap M4.cells
theorem cellsM_len (ms : List M4) : (cellsM ms).length = ms.length * 2 := by
  induction ms with
  | nil => rfl
  | cons m ms ih => simp only [cellsM, List.flatMap_cons, List.length_append, List.length_cons] at *; simp [M4.cells] at *; omega
theorem cellsM_snoc (ms : List M4) (m : M4) : cellsM (ms ++ [m]) = cellsM ms ++ m.cells := by simp [cellsM]
theorem cellsM_at (ms : List M4) (k : Nat) (m : M4) (h : ms[k]? = some m) : (cellsM ms)[2 * k]? = some (.complex .f32 m.pr m.pi) ∧ (cellsM ms)[2 * k + 1]? = some (.complex .f32 m.gr m.gi) := by
  induction ms generalizing k with
  | nil => simp at h
  | cons a ms ih =>
    cases k with
    | zero => simp at h; subst h; simp [cellsM, M4.cells]
    | succ k =>
      have := ih k (by simpa using h)
      rw [show 2 * (k + 1) = 2 * k + 2 from by omega, show 2 * k + 2 + 1 = 2 * k + 1 + 2 from by omega]
      simpa [cellsM, M4.cells] using this

theorem At.grown {B : Nat} {w0 : World} {a : Option Addr} {len cap c base : Nat} {w w1 : World} {row : Option Nat} (h : At B w0 a len cap c w) (hg : w.grownBy w1 row) (hr : ∀ k, row = some k → base ≤ k) (hc : c < base) (hB : B ≤ base) (hw : w0.heap.size ≤ base) : At B w0 a len cap c w1 := by
  obtain ⟨⟨h1, h2, h3, i, j, h4, h5, h6, h7, h8, h9, h10⟩, hk⟩ := h
  have hb : w1.heap[c]? = w.heap[c]? := hg.block c h2 (fun e => by have := hr c e.symm; omega)
  have k : ∀ q : Addr, q.block = c → w1.cell? q = w.cell? q := fun q hq => World.cell?_of_block (w := w) (by rw [hq]; exact hb)
  have f : ∀ q : Addr, q.block = c → w1.frozen? q = w.frozen? q := fun q hq => World.frozen?_of_block (w := w) (by rw [hq]; exact hb)
  have hs := hg.size
  exact ⟨⟨h1, by omega, h3.below ⟨hg.os, hg.tape, hg.output, hg.size, fun q hq => hg.block q (by omega) (fun e => by have := hr q e.symm; omega)⟩, i, j, h4, by rw [k _ rfl]; exact h5, by rw [k _ rfl]; exact h6, by rw [k _ rfl]; exact h7, by rw [f _ rfl]; exact h8, by rw [f _ rfl]; exact h9, by rw [f _ rfl]; exact h10⟩,
    hg.os.trans hk.os, hg.tape.trans hk.tape, hg.output.trans hk.output, by have := hk.size; omega, fun q hq hne => (hg.block q (by have := hk.size; omega) (fun e => by have := hr q e.symm; omega)).trans (hk.block q hq hne)⟩

/-- block b holds one cell -/
def Has1 (w : World) (b : Nat) (v : Value) : Prop := b < w.heap.size ∧ w.cell? ⟨b, 0, none⟩ = some v ∧ w.frozen? ⟨b, 0, none⟩ = false
theorem Has1.of {w w' : World} {b : Nat} {v : Value} (h : Has1 w b v) (hs : w.heap.size ≤ w'.heap.size) (hb : w'.heap[b]? = w.heap[b]?) : Has1 w' b v := by
  obtain ⟨h0, h1, h3⟩ := h
  have k : ∀ p : Addr, p.block = b → w'.cell? p = w.cell? p := fun p hp => World.cell?_of_block (w := w) (by rw [hp]; exact hb)
  have f : ∀ p : Addr, p.block = b → w'.frozen? p = w.frozen? p := fun p hp => World.frozen?_of_block (w := w) (by rw [hp]; exact hb)
  exact ⟨by omega, by rw [k _ rfl]; exact h1, by rw [f _ rfl]; exact h3⟩
theorem Has1.kp {c : Nat} {w w' : World} {b : Nat} {v : Value} (h : Has1 w b v) (hk : Kp c w w') (hne : b ≠ c) : Has1 w' b v := h.of hk.size (hk.block b h.1 (fun e => hne (by cases e; rfl)))
theorem Has1.nw {w w' : World} {b : Nat} {v : Value} (h : Has1 w b v) (hk : Nw w w') : Has1 w' b v := h.of hk.size (hk.block b h.1 (by simp))
theorem Has1.grown {w w' : World} {b : Nat} {v : Value} {row : Option Nat} (h : Has1 w b v) (hk : w.grownBy w' row) (hr : row ≠ some b) : Has1 w' b v := h.of hk.size (hk.block b h.1 (fun e => hr e.symm))
theorem Has1.alloc {w : World} {b : Nat} {v : Value} (h : Has1 w b v) (o : Obj) : Has1 (w.alloc o) b v := h.nw ((Nw.refl _).alloc _)
theorem Has1.draw {w : World} {b : Nat} {v : Value} (h : Has1 w b v) (n : Nat) : Has1 (w.drewN n) b v := h.nw ((Nw.refl _).draw _)
theorem Has1.set {w : World} {b : Nat} {v : Value} (h : Has1 w b v) {p : Addr} (hp : p.block ≠ b) (u : Value) : Has1 (w.setCell p u) b v :=
  h.of (by simp [World.setCell]) (Below.heap_setCell _ _ _ _ (fun e => hp e.symm))
theorem Has1.put {w : World} {b : Nat} {v : Value} (h : Has1 w b v) (u : Value) : Has1 (w.setCell ⟨b, 0, none⟩ u) b u := by
  obtain ⟨h0, h1, h2⟩ := h
  refine ⟨by simpa using h0, ?_, ?_⟩ <;> go_simp
theorem Has1.new (w : World) (T : TypeId) (v : Value) : Has1 (w.alloc (.cells #[v] T (0, 0))) w.heap.size v := by
  refine ⟨by simp, ?_, ?_⟩ <;> go_simp

section
variable {w w' : World} {base : Nat} {E : TypeId} {size : Nat} {v : Value} {n : Nat} {xs : List Value}
theorem own_shape (h : w.ownsRow base E size v n xs) : ∃ a l c, v = .slice a l c := by
  rcases h.2 with ⟨rfl, _⟩ | ⟨g, cap, cur, rfl, _⟩
  · exact ⟨_, _, _, rfl⟩
  · exact ⟨_, _, _, rfl⟩
theorem own_ge (h : w.ownsRow base E size v n xs) (k : Nat) (hk : v.ownBlock = some k) : base ≤ k := (h.lt k hk).1
theorem own_kp {c : Nat} (h : w.ownsRow base E size v n xs) (hk : Kp c w w') (hc : c < base) : w'.ownsRow base E size v n xs := by
  refine h.kept hk ?_
  cases hv : v.ownBlock with
  | none => exact .inl rfl
  | some k => right; intro e; cases e; have := own_ge h _ hv; omega
theorem own_nw (h : w.ownsRow base E size v n xs) (hk : Nw w w') : w'.ownsRow base E size v n xs := h.kept hk (by cases hv : v.ownBlock <;> simp)
theorem own_set (h : w.ownsRow base E size v n xs) {p : Addr} (hp : p.block < base) (u : Value) : (w.setCell p u).ownsRow base E size v n xs := ownsRow_setCell_below h hp u
theorem own_base {b' : Nat} (h : w.ownsRow base E size v n xs) (hb : b' ≤ base) : w.ownsRow b' E size v n xs := by
  refine ⟨h.1, ?_⟩
  rcases h.2 with h | ⟨g, cap, cur, hv, hg, r⟩
  · exact .inl h
  · exact .inr ⟨g, cap, cur, hv, by omega, r⟩
end
theorem At.nw {B : Nat} {w0 : World} {a : Option Addr} {len cap c : Nat} {w w1 : World} (h : At B w0 a len cap c w) (hg : Nw w w1) : At B w0 a len cap c w1 :=
  h.grown (base := max (c + 1) (max B w0.heap.size)) hg (fun k hk => by cases hk) (by omega) (by omega) (by omega)

theorem info_mode : (Try.prog.info? 61).map (fun i => (i.zero, i.size, i.bytes)) = some (some (.agg #[.complex .f32 0 0, .complex .f32 0 0]), 2, 16) := by kernel_rfl

/-- what the loop of l2Body holds -/
def BodyI (B : Nat) (w0 : World) (a : Option Addr) (len cap c bb br base M : Nat) (i : Value) (wr : World) : Prop :=
  ∃ (k : Nat) (ms : List M4) (v : Value), i = .int .i64 (k : Int) ∧ k + ms.length ≤ M ∧ At B w0 a len cap c wr ∧ Has1 wr bb v ∧ (∃ u, Has1 wr br u) ∧ wr.ownsRow base 61 2 v ms.length (cellsM ms) ∧ (∀ m ∈ ms, m.ok) ∧ base ≤ wr.heap.size

/-- a body with at most M modes, all valid, in memory from 'base' on -/
def BodyP (B : Nat) (w0 : World) (a : Option Addr) (len cap c M base : Nat) (e : Ending) (w' : World) : Prop :=
  ∃ (ms : List M4) (v : Value), e = .returned (.agg #[v]) ∧ ms.length ≤ M ∧ (∀ m ∈ ms, m.ok) ∧ w'.ownsRow base 61 2 v ms.length (cellsM ms) ∧ At B w0 a len cap c w'

set_option maxHeartbeats 1600000 in
theorem l2Body_at (B : Nat) (w0 : World) (a : Option Addr) (len cap c M : Nat) (hM : M ≤ 16) (w : World) (hc : At B w0 a len cap c w) :
    Calls Try.prog 81 #[.pointer (some ⟨c, 0, none⟩), .int .i64 (M : Int)] w (BodyP B w0 a len cap c M w.heap.size) := by
  obtain ⟨i0, hi, hz0, hz1, hz2⟩ := info_parts info_mode
  have hcs : c < w.heap.size := hc.1.2.1
  have hBc : B ≤ c := hc.1.1
  have hw0 : w0.heap.size ≤ w.heap.size := hc.2.size
  have Hc := Lib.hid hc
  clear hc
  go_enter Try.func81, Try.ntmps81
  have hsz : ∀ o o', ((w.alloc o).alloc o').heap.size = w.heap.size + 2 := fun o o' => by simp
  have Hsz := Lib.hid hsz
  clear hsz
  go_wp2_with fail
  refine (below_at _ _ _ _ _ _ _ (by omega) (by omega) _ ((Hc.out.alloc _).alloc _).here).mono ?_
  rintro e w1 ⟨x, x0, x1, rfl, hc1⟩
  have Hb1 := Lib.hid ((show Has1 ((w.alloc (.cells #[.slice none 0 0] 69 (0, 0))).alloc (.cells #[.slice none 0 0] 69 (0, 0))) (w.heap.size + 1) (.slice none 0 0) from by
    simpa using Has1.new (w.alloc (.cells #[.slice none 0 0] 69 (0, 0))) 69 (.slice none 0 0)).kp hc1.2 (by omega))
  have Hr1 := Lib.hid (((Has1.new w 69 (.slice none 0 0)).alloc (.cells #[.slice none 0 0] 69 (0, 0))).kp hc1.2 (by omega))
  have Hs1 := Lib.hid (show w.heap.size + 2 ≤ w1.heap.size from by have := hc1.2.size; rw [Hsz.out] at this; exact this)
  have Hc1 := Lib.hid (show At B w0 a len cap c w1 from ⟨hc1.1, ((Hc.out.alloc _).alloc _).2.trans hc1.2⟩)
  clear hc1
  go_wp2_with fail
  go_loopw [6] (fun i wr => BodyI B w0 a len cap c (w.heap.size + 1) w.heap.size (w.heap.size + 2) M i wr) (fun i _ => (intOf i).toNat)
  case atStart => exact ⟨x.toNat, [], _, by rw [Int.toNat_of_nonneg x0], by simp; omega, Hc1.out, Hb1.out, ⟨_, Hr1.out⟩, World.ownsRow_nil _ _ _ _, by simp, Hs1.out⟩
  case round =>
    obtain ⟨k, ms, v, rfl, hk, hat, hbb, ⟨u, hbr⟩, hown, hok, hbase⟩ := hrel
    have Hat := Lib.hid hat
    have Hbb := Lib.hid hbb
    have Hbr := Lib.hid hbr
    have Hown := Lib.hid hown
    have Hok := Lib.hid hok
    clear hat hbb hbr hown hok
    by_cases hk0 : 0 < k
    · go_wp2_with fail
      refine (l2Mode_at _ _ _ _ _ _ _ Hat.out.here).mono ?_
      rintro e w2 ⟨pr, pi, gr, gi, rfl, hc2⟩
      have Hc2 := Lib.hid (show At B w0 a len cap c w2 from ⟨hc2.1, Hat.out.2.trans hc2.2⟩)
      have Hbb2 := Lib.hid (Hbb.out.kp hc2.2 (by omega))
      have Hbr2 := Lib.hid (Hbr.out.kp hc2.2 (by omega))
      have Hown2 := Lib.hid (own_kp Hown.out hc2.2 (by omega))
      have Hs2 := Lib.hid (show w.heap.size + 2 ≤ w2.heap.size from by have := hc2.2.size; omega)
      clear hc2
      go_wp2_with fail
      refine (specMode_any _ _ _ _ _).mono ?_
      rintro e w3 ⟨rfl, n3⟩
      have Hc3 := Lib.hid (At.nw (Hc2.out.alloc _) n3)
      have Hm3 := Lib.hid ((HasMode.new w2 61 pr pi gr gi).nw n3)
      have Hbb3 := Lib.hid ((Hbb2.out.alloc _).nw n3)
      have Hbr3 := Lib.hid ((Hbr2.out.alloc _).nw n3)
      have Hown3 := Lib.hid (own_nw (Hown2.out.alloc _) n3)
      have Hs3 := Lib.hid (show w.heap.size + 2 ≤ w3.heap.size from by have := n3.size; have := Hs2.out; simp at *; omega)
      clear n3
      obtain ⟨sa, sl, sc, rfl⟩ := own_shape Hown3.out
      obtain ⟨m0, m1, m2, -, -⟩ := Hm3.out
      obtain ⟨b0, b1, b2⟩ := Hbb3.out
      cases hv : modeB pr pi gr gi labs
      · go_wp2_with fail
        go_roundw
        case rel => exact ⟨k - 1, ms, _, by rw [show ((k - 1 : Nat) : Int) = (k : Int) - 1 from by omega], by omega, Hc3.out, Hbb3.out, ⟨_, Hbr3.out⟩, Hown3.out, Hok.out, Hs3.out⟩
        case measure => simp only [intOf]; omega
      · go_wp2_with (at_builtin; refine wpList_append_own _ rfl _ _ 23 rfl (w.heap.size + 2) 61 i0 (.agg #[.complex .f32 0 0, .complex .f32 0 0]) 2 16 Try.underlying23 hi hz0 hz1 hz2 rfl (by decide) _ _ _ rfl (Hown3.out.alloc _) ⟨w3.heap.size, 0, none⟩ 1 1 [.complex .f32 pr pi, .complex .f32 gr gi] rfl rfl ?c1 ?c2 ?c3 ?c4 ?c5 ?_)
        case c1 =>
          intro j u hj
          match j, hj with
          | 0, hj => simp at hj; subst hj; simp [Addr.add]
          | 1, hj => simp at hj; subst hj; simp [Addr.add]
        case c2 => intro u hu; simp at hu; rcases hu with rfl | rfl <;> rfl
        case c3 => unfold maxLen; omega
        case c4 => omega
        case c5 => have := Hs3.out; simp; omega
        · intro v' w4 hown4 hgrow _
          have hrow : ∀ q, (Value.slice sa sl sc).ownBlock = some q → w.heap.size + 2 ≤ q := fun q hq => own_ge Hown3.out q hq
          have Hc4 := Lib.hid ((Hc3.out.alloc _).grown hgrow hrow (by omega) (by omega) (by omega))
          have Hbb4 := Lib.hid ((Hbb3.out.alloc _).grown hgrow (fun e => by have := hrow _ e; omega))
          have Hbr4 := Lib.hid ((Hbr3.out.alloc _).grown hgrow (fun e => by have := hrow _ e; omega))
          have Hs4 := Lib.hid (show w.heap.size + 2 ≤ w4.heap.size from by have := hgrow.size; have := Hs3.out; simp at *; omega)
          rw [show cellsM ms ++ [Value.complex .f32 pr pi, Value.complex .f32 gr gi] = cellsM (ms ++ [⟨pr, pi, gr, gi⟩]) from (cellsM_snoc ms ⟨pr, pi, gr, gi⟩).symm, show ms.length + 1 = (ms ++ [(⟨pr, pi, gr, gi⟩ : M4)]).length from by simp] at hown4
          obtain ⟨ta, tl, tc, rfl⟩ := own_shape hown4
          have Hown4 := Lib.hid hown4
          have Hok4 := Lib.hid (show ∀ m ∈ ms ++ [(⟨pr, pi, gr, gi⟩ : M4)], m.ok from by
            intro m hm
            rcases List.mem_append.1 hm with hm | hm
            · exact Hok.out m hm
            · simp at hm; subst hm; exact hv)
          clear hown4 hgrow hrow b0 b1 b2 m0 m1 m2
          obtain ⟨b0, b1, b2⟩ := Hbb4.out
          go_wp2_with fail
          go_roundw
          case rel => exact ⟨k - 1, ms ++ [⟨pr, pi, gr, gi⟩], _, by rw [show ((k - 1 : Nat) : Int) = (k : Int) - 1 from by omega], by simp; omega, Hc4.out.set (by show w.heap.size + 1 ≠ c; omega) (by show B ≤ w.heap.size + 1; omega) (by show w0.heap.size ≤ w.heap.size + 1; omega) _, Hbb4.out.put _, ⟨_, Hbr4.out.set (by show w.heap.size + 1 ≠ w.heap.size; omega) _⟩, own_set Hown4.out (by show w.heap.size + 1 < w.heap.size + 2; omega) _, Hok4.out, by simpa using Hs4.out⟩
          case measure => simp only [intOf]; omega
    · obtain ⟨sa, sl, sc, rfl⟩ := own_shape Hown.out
      obtain ⟨b0, b1, b2⟩ := Hbb.out
      obtain ⟨r0, r1, r2⟩ := Hbr.out
      go_wp2_with fail
      exact bodyPost_ret (v := .agg #[.slice sa sl sc]) (by simp [results, Try.results81, go_sem, r0, r1, r2]) rfl
        ⟨ms, _, rfl, by omega, Hok.out, own_base (own_set Hown.out (by show w.heap.size < w.heap.size + 2; omega) _) (by omega), Hat.out.set (by show w.heap.size ≠ c; omega) (by show B ≤ w.heap.size; omega) hw0 _⟩

end Go.Proofs.Ytlhhcchncobmhaa

/- Plain facts on the operations of single precision, with bounded errors; narrowing; whole numbers. No program stands in it.
   Conditions: those that each statement names. -/
namespace Go.Proofs.Ytlhhcchncobmhaa
set_option linter.unusedSimpArgs false
set_option linter.unusedVariables false
open Go

namespace Flo
def v : Rat := pw (-24)
def es : Rat := pw (-149)
theorem v_pos : 0 < v := pw_pos _
theorem es_pos : 0 < es := pw_pos _
theorem top_single : top Ieee.single = 127 := by decide
theorem lp_single : Ieee.single.leastPlace = -149 := by decide
theorem fb_single : (Ieee.single.fractionBits : Int) = 23 := rfl
theorem err_single (B : Rat) : (B * pw (-(Ieee.single.fractionBits : Int)) + pw Ieee.single.leastPlace) / 2 = B * v + es / 2 := by
  rw [lp_single, fb_single]
  have : pw (-23) = 2 * pw (-24) := by rw [← pw_succ]; rfl
  unfold v es
  rw [this]; grind
theorem v_eq : v * 16777216 = 1 := by
  have e : pw (-24) * pw 24 = 1 := pw_neg_mul 24
  rw [show pw 24 = 16777216 from pw_nat 24] at e
  exact e
theorem es_le : es ≤ v * v * v * v * v := by
  unfold es v
  rw [← pw_add, ← pw_add, ← pw_add, ← pw_add]
  exact pw_le (by omega)
theorem u_le_v : u ≤ v / 536870912 := by
  have h : pw (-24) = pw 29 * pw (-53) := by rw [← pw_add]; rfl
  have e : pw 29 = 536870912 := pw_nat 29
  unfold u v
  rw [h, e]; grind
theorem et_le_es : et ≤ es := pw_le (by omega)

theorem s_add (x y : Nat) (hx : Sm x) (hy : Sm y) (B : Rat) (h : Ab (S x + S y) B) (hB : B < pw 127) :
    ∃ r, floatBits .add .f32 x y = some r ∧ Sm r ∧ Ab (S r - (S x + S y)) (B * v + es) := by
  obtain ⟨r, h1, h2, h3⟩ := add_ok Ieee.single (by decide) x y hx hy B h.2 h.1 (by rw [top_single]; exact hB)
  rw [err_single] at h3
  have := es_pos
  refine ⟨r, h1, h2, ?_⟩
  unfold Near at h3; unfold Ab S; grind
theorem s_sub (x y : Nat) (hx : Sm x) (hy : Sm y) (B : Rat) (h : Ab (S x - S y) B) (hB : B < pw 127) :
    ∃ r, floatBits .sub .f32 x y = some r ∧ Sm r ∧ Ab (S r - (S x - S y)) (B * v + es) := by
  obtain ⟨r, h1, h2, h3⟩ := sub_ok Ieee.single (by decide) x y hx hy B h.2 h.1 (by rw [top_single]; exact hB)
  rw [err_single] at h3
  have := es_pos
  refine ⟨r, h1, h2, ?_⟩
  unfold Near at h3; unfold Ab S; grind
theorem s_mul (x y : Nat) (hx : Sm x) (hy : Sm y) (B : Rat) (h : Ab (S x * S y) B) (hB : B < pw 127) :
    ∃ r, floatBits .mul .f32 x y = some r ∧ Sm r ∧ Ab (S r - S x * S y) (B * v + es) := by
  obtain ⟨r, h1, h2, h3⟩ := mul_ok Ieee.single (by decide) x y hx hy B h.2 h.1 (by rw [top_single]; exact hB)
  rw [err_single] at h3
  have := es_pos
  refine ⟨r, h1, h2, ?_⟩
  unfold Near at h3; unfold Ab S; grind
theorem s_div (x y : Nat) (hx : Sm x) (hy : Sm y) (hy0 : S y ≠ 0) (q B : Rat) (hq : q * S y = S x) (h : Ab q B) (hB : B < pw 126) :
    ∃ r, floatBits .quo .f32 x y = some r ∧ Sm r ∧ Ab (S r - q) (4 * (B * v) + es) := by
  obtain ⟨r, h1, h2, h3⟩ := div_ok Ieee.single (by decide) x y hx hy hy0 q B hq h.2 h.1 (by
    rw [top_single, show (127 : Int) = 126 + 1 from rfl, pw_succ]; grind)
  rw [lp_single, fb_single] at h3
  have e : pw (-23) = 2 * pw (-24) := by rw [← pw_succ]; rfl
  rw [e] at h3
  refine ⟨r, h1, h2, ?_⟩
  unfold Near at h3; unfold Ab S v es; grind

/-- the bits of a narrowed number -/
def nar (b : Nat) : Nat := FloatKind.f32.encode (FloatKind.f64.decode b)
/-- narrowing a number that is not too great -/
theorem narrow_ok (x : Nat) (hx : Nm x) (B : Rat) (h : Ab (W x) B) (hB : B < pw 127) :
    (∀ w, fcv w .f64 x .f32 = nar x) ∧ fcd .f64 x .f32 = 0 ∧ Sm (nar x) ∧ Ab (S (nar x) - W x) (B * v + es) := by
  obtain ⟨s, m, p, hr⟩ := hx
  rw [show W x = _ from V_eq hr] at h ⊢
  obtain ⟨h1, h2⟩ := write_ok Ieee.single (by decide) s m p B h.2 h.1 (by rw [top_single]; exact hB)
  rw [err_single] at h2
  have hd : FloatKind.f64.decode x = .number s m p := hr
  obtain ⟨s', m', p', hn⟩ := h1
  have hinf : (FloatKind.f32.decode (FloatKind.f32.encode (.number s m p))).isInfinity = false := by
    show (Ieee.single.read (Ieee.single.write (.number s m p))).isInfinity = false
    rw [hn]; rfl
  have en : nar x = FloatKind.f32.encode (.number s m p) := by unfold nar; rw [hd]
  rw [en]
  refine ⟨?_, ?_, ⟨s', m', p', hn⟩, ?_⟩
  · intro w
    unfold fcv
    rw [if_neg (by decide), hd]
    simp only [hinf, Bool.false_eq_true, if_false]
  · unfold fcd
    rw [if_neg (by decide), hd]
    simp only [hinf, Bool.false_eq_true, if_false]
  · have := es_pos
    unfold Near at h2
    unfold Ab
    show _ ≤ V Ieee.single (Ieee.single.write (.number s m p)) - _ ∧ V Ieee.single (Ieee.single.write (.number s m p)) - _ ≤ _
    grind

/-- whole numbers that the format has -/
theorem int_exact (k : FloatKind) (n : Int) (hn : n.natAbs < 2 ^ (k.format.fractionBits + 1)) (he : 2 ≤ k.format.exponentBits) (hp : k.format.leastPlace ≤ 0) (ht : (n.natAbs : Rat) < pw (top k.format)) :
    IsNum k.format (floatOfInt k n) ∧ V k.format (floatOfInt k n) = (n : Rat) := by
  have e : floatOfInt k n = k.format.write (.number (decide (n < 0)) n.natAbs 0) := rfl
  rw [e]
  obtain ⟨m', p', w1, w2, w3, w4⟩ := write_exact k.format he (decide (n < 0)) n.natAbs 0 n.natAbs 0 rfl hn hp (by rw [pw_zero]; grind)
  refine ⟨⟨_, _, _, w1⟩, ?_⟩
  rw [V_eq w1]
  unfold val
  rw [w4, pw_zero]
  by_cases h : n < 0
  · rw [if_pos (by simpa using h)]
    have : (n : Rat) = -((n.natAbs : Nat) : Rat) := by
      have h2 : n = -((n.natAbs : Nat) : Int) := by omega
      conv => lhs; rw [h2]
      rw [Rat.intCast_neg, Rat.intCast_natCast]
    rw [this]; grind
  · rw [if_neg (by simpa using h)]
    have : (n : Rat) = ((n.natAbs : Nat) : Rat) := by
      have h2 : n = ((n.natAbs : Nat) : Int) := by omega
      conv => lhs; rw [h2]
      rw [Rat.intCast_natCast]
    rw [this]; grind
theorem int_single (n : Int) (hn : n.natAbs < 16777216) : Sm (floatOfInt .f32 n) ∧ S (floatOfInt .f32 n) = (n : Rat) := by
  refine int_exact .f32 n (by rw [show 2 ^ (FloatKind.f32.format.fractionBits + 1) = 16777216 from by decide]; exact hn) (by decide) (by decide) ?_
  show (n.natAbs : Rat) < pw (top Ieee.single)
  rw [top_single]
  have h1 : ((n.natAbs : Nat) : Rat) < ((16777216 : Nat) : Rat) := by exact_mod_cast hn
  have h2 : pw 24 = ((16777216 : Nat) : Rat) := pw_nat 24
  have h3 := pw_lt (a := 24) (b := 127) (by omega)
  grind
theorem int_double (n : Int) (hn : n.natAbs < 9007199254740992) : Nm (floatOfInt .f64 n) ∧ W (floatOfInt .f64 n) = (n : Rat) := by
  refine int_exact .f64 n (by rw [show 2 ^ (FloatKind.f64.format.fractionBits + 1) = 9007199254740992 from by decide]; exact hn) (by decide) (by decide) ?_
  show (n.natAbs : Rat) < pw (top Ieee.double)
  rw [top_double]
  have h1 : ((n.natAbs : Nat) : Rat) < ((9007199254740992 : Nat) : Rat) := by exact_mod_cast hn
  have h2 : pw 53 = ((9007199254740992 : Nat) : Rat) := pw_nat 53
  have h3 := pw_lt (a := 53) (b := 1023) (by omega)
  grind
end Flo
end Go.Proofs.Ytlhhcchncobmhaa

/- The walks of MakeBody, MakeSmall and of the laws' own 'at'.
   Conditions: those that each statement names. -/
namespace Go.Proofs.Ytlhhcchncobmhaa
set_option linter.unusedSimpArgs false
set_option linter.unusedVariables false
open Go Go.RowKit

/-- a body with at most M modes, all valid, in memory of the call's own -/
def MadeB (M : Nat) (w : World) (e : Ending) (w' : World) : Prop :=
  ∃ (ms : List M4) (v : Value), e = .returned (.agg #[v]) ∧ ms.length ≤ M ∧ (∀ m ∈ ms, m.ok) ∧ w'.ownsRow w.heap.size 61 2 v ms.length (cellsM ms) ∧ Nw w w'

theorem Nw.set' {a w : World} (h : Nw a w) {p : Addr} (hp : a.heap.size ≤ p.block) (u : Value) : Nw a (w.setCell p u) := h.set hp u
theorem At.toNw {B : Nat} {w0 : World} {a : Option Addr} {len cap c : Nat} {w : World} (h : At B w0 a len cap c w) (hc : w0.heap.size ≤ c) : Nw w0 w := h.2.nw hc

theorem makeBody_any (a : Option Addr) (len cap M : Nat) (hM0 : 1 ≤ M) (hM : M ≤ 16) (w : World) (hb : Bys w.heap.size a len w) :
    Calls Try.prog 39 #[.slice a len cap, .int .i64 (M : Int)] w (MadeB M w) := by
  have Hb := Lib.hid hb
  clear hb
  have hsz : ∀ o, (w.alloc o).heap.size = w.heap.size + 1 := fun o => by simp
  have Hsz := Lib.hid hsz
  clear hsz
  go_enter Try.func39, Try.ntmps39
  go_wp2_with fail
  refine (l01New_any _ _ _ _ ((Hb.out.below ((Below.refl _ _).alloc (Nat.le_refl _) _)).mono (by simp))).mono ?_
  rintro e w1 ⟨rfl, hat⟩
  rw [Hsz.out] at hat
  have Hr1 := Lib.hid ((Has1.new w 69 (.slice none 0 0)).kp hat.2 (by omega))
  have Hn1 := Lib.hid ((((Nw.refl w).alloc (.cells #[.slice none 0 0] 69 (0, 0))).trans (hat.2.nw (by simp))))
  have Hat := Lib.hid hat
  clear hat
  have h0 : (0 : Int) < M := by omega
  go_wp2_with fail
  refine (l2Body_at _ _ _ _ _ _ M hM _ Hat.out.here).mono ?_
  rintro e w2 ⟨ms, v, rfl, hms, hok, hown, hc2⟩
  have Hr2 := Lib.hid (Hr1.out.kp hc2.2 (by omega))
  have Hn2 := Lib.hid (show Nw w w2 from ⟨hc2.2.os.trans Hn1.out.os, hc2.2.tape.trans Hn1.out.tape, hc2.2.output.trans Hn1.out.output, Nat.le_trans Hn1.out.size hc2.2.size,
    fun k hk hne => (hc2.2.block k (Nat.lt_of_lt_of_le hk Hn1.out.size) (fun e => by cases e; omega)).trans (Hn1.out.block k hk hne)⟩)
  have Hs1 := Lib.hid (show w.heap.size + 1 ≤ w1.heap.size from by have := Hat.out.2.size; rw [Hsz.out] at this; exact this)
  obtain ⟨sa, sl, sc, rfl⟩ := own_shape hown
  have Hown := Lib.hid hown
  have Hok := Lib.hid hok
  clear hc2 hown hok
  obtain ⟨r0, r1, r2⟩ := Hr2.out
  go_wp2_with fail
  exact bodyPost_ret (v := .agg #[.slice sa sl sc]) (by simp [results, Try.results39, go_sem, r0, r1, r2]) rfl
    ⟨ms, _, rfl, hms, Hok.out, own_base (own_set Hown.out (by show w.heap.size < w1.heap.size; have := Hs1.out; omega) _) (by have := Hs1.out; omega), Hn2.out.set (Nat.le_refl _) _⟩

/-! ### samples -/
theorem num_1000 : Sm 1148846080 ∧ S 1148846080 = 1000 := by
  have h : Ieee.single.read 1148846080 = .number false 16384000 (-14) := by decide
  refine ⟨⟨_, _, _, h⟩, ?_⟩
  rw [show S 1148846080 = _ from Flo.V_eq h]
  unfold Flo.val
  have := Flo.pw_neg_mul 14
  have e : Flo.pw 14 = 16384 := Flo.pw_nat 14
  rw [e] at this
  simp only [Bool.false_eq_true, if_false]
  have e2 : ((16384000 : Nat) : Rat) = 16384000 := rfl
  rw [e2]; grind

/-- a sample that MakeSmall draws, if its greatest one is at most K in absolute value -/
def Samp (K : Rat) (b : Nat) : Prop := Sm b ∧ Flo.Ab (S b) (K + K / 1000000 + 1 / 1000000)

theorem samp_ok (mb : Nat) (K : Rat) (hm : Sm mb) (hK : Flo.Ab (S mb) K) (hK60 : K ≤ Flo.pw 60) (z : Int) (h0 : 0 ≤ z) (h1 : z < 2001) :
    ∃ r1 r2, floatBits .mul .f32 mb (floatOfInt .f32 (z - 1000)) = some r1 ∧ floatBits .quo .f32 r1 1148846080 = some r2 ∧ Samp K r2 := by
  obtain ⟨n1, v1⟩ := Flo.int_single (z - 1000) (by omega)
  have hz : Flo.Ab (S (floatOfInt .f32 (z - 1000))) 1000 := by
    rw [v1]
    have a1 : (-1000 : Rat) ≤ ((z - 1000 : Int) : Rat) := Rat.intCast_le_intCast.2 (show -1000 ≤ z - 1000 by omega)
    have a2 : ((z - 1000 : Int) : Rat) ≤ 1000 := Rat.intCast_le_intCast.2 (show z - 1000 ≤ 1000 by omega)
    exact ⟨a1, a2⟩
  have hK0 := hK.nonneg
  have hp := hK.mul hz
  have e71 : Flo.pw 71 = 2048 * Flo.pw 60 := by rw [show (71 : Int) = 11 + 60 from rfl, Flo.pw_add, show Flo.pw 11 = 2048 from Flo.pw_nat 11]
  have l71 := Flo.pw_lt (a := 71) (b := 126) (by omega)
  have l72 := Flo.pw_lt (a := 126) (b := 127) (by omega)
  have o60 : 1 ≤ Flo.pw 60 := by rw [← Flo.pw_zero]; exact Flo.pw_le (by omega)
  have ve := Flo.v_eq
  have v0 := Flo.v_pos
  have es0 := Flo.es_pos
  have ev : Flo.es ≤ Flo.v := Flo.pw_le (by omega)
  have hKv : K * Flo.v = K / 16777216 := by
    have : Flo.v = 1 / 16777216 := by grind
    rw [this]; grind
  obtain ⟨r1, a1, a2, a3⟩ := Flo.s_mul _ _ hm n1 (K * 1000) hp (by grind)
  have hq : (S r1 / 1000) * S 1148846080 = S r1 := by rw [num_1000.2]; grind
  have h1000 : Flo.Ab (S r1) (K * 1000 + K * 1000 * Flo.v + Flo.es) := ((a3.add hp).eq (by grind)).mono (by grind)
  have hq2 : Flo.Ab (S r1 / 1000) (K + K * Flo.v + Flo.es) := by
    unfold Flo.Ab at *; constructor <;> grind
  obtain ⟨r2, b1, b2, b3⟩ := Flo.s_div r1 1148846080 a2 num_1000.1 (by rw [num_1000.2]; grind) _ _ hq hq2 (by grind)
  refine ⟨r1, r2, a1, b1, b2, ?_⟩
  refine ((b3.add hq2).eq (show S r2 - S r1 / 1000 + S r1 / 1000 = S r2 by grind)).mono ?_
  have hKvv : K * Flo.v * Flo.v = K / 16777216 / 16777216 := by
    rw [hKv]; have : Flo.v = 1 / 16777216 := by grind
    rw [this]; grind
  have hev : Flo.es * Flo.v ≤ Flo.es := by
    have := Rat.mul_le_mul_of_nonneg_left (show Flo.v ≤ 1 by grind) (Rat.le_of_lt es0); grind
  grind

theorem info_f32 : (Try.prog.info? 31).map (fun i => (i.zero, i.size, i.bytes)) = some (some (.float .f32 0), 1, 4) := by kernel_rfl

/-- the cells of a row of samples -/
def cellsS (xs : List Nat) : List Value := xs.map (Value.float .f32)

def SmallI (B : Nat) (w0 : World) (a : Option Addr) (len cap c base : Nat) (K : Rat) (v i : Value) (wr : World) : Prop :=
  ∃ (k : Nat) (xs : List Nat), i = .int .i64 (k : Int) ∧ k + xs.length ≤ 11 ∧ At B w0 a len cap c wr ∧ wr.ownsRow base 31 1 v xs.length (cellsS xs) ∧ (∀ x ∈ xs, Samp K x) ∧ base ≤ wr.heap.size

/-- at most eleven samples, in memory of the call's own -/
def SmallP (K : Rat) (w : World) (e : Ending) (w' : World) : Prop :=
  ∃ (xs : List Nat) (v : Value), e = .returned v ∧ xs.length ≤ 11 ∧ (∀ x ∈ xs, Samp K x) ∧ w'.ownsRow w.heap.size 31 1 v xs.length (cellsS xs) ∧ Nw w w'

theorem makeSmall_any (a : Option Addr) (len cap mb : Nat) (K : Rat) (hm : Sm mb) (hK : Flo.Ab (S mb) K) (hK60 : K ≤ Flo.pw 60) (w : World) (hb : Bys w.heap.size a len w) :
    Calls Try.prog 10 #[.slice a len cap, .float .f32 mb] w (SmallP K w) := by
  obtain ⟨i0, hi, hz0, hz1, hz2⟩ := info_parts info_f32
  have Hb := Lib.hid hb
  have HK := Lib.hid hK
  clear hb hK
  go_enter Try.func10, Try.ntmps10
  go_wp2_with fail
  refine (l01New_any _ _ _ _ Hb.out).mono ?_
  rintro e w1 ⟨rfl, hat⟩
  have Hat := Lib.hid hat
  clear hat
  go_wp2_with fail
  have Hs1 := Lib.hid (show w.heap.size + 1 ≤ w1.heap.size from Hat.out.1.2.1)
  refine (below_at _ _ _ _ _ _ _ (by omega) (by omega) _ (Hat.out.alloc _).here).mono ?_
  rintro e w2 ⟨z, z0, z1, rfl, hc2⟩
  have Hown2 := Lib.hid (own_kp (World.ownsRow_lit (base := w.heap.size + 1) (e := 31) (size := 1) w1 #[] 0 Hs1.out (by decide) rfl) hc2.2 (by omega))
  have Hs2 := Lib.hid (show w.heap.size + 1 ≤ w2.heap.size from by have := hc2.2.size; have := Hs1.out; simp at *; omega)
  have Hc2 := Lib.hid (show At w.heap.size w a len cap w.heap.size w2 from ⟨hc2.1, (Hat.out.alloc _).2.trans hc2.2⟩)
  clear hc2
  go_wp2_with fail
  go_loopw [6, 7] (fun v i wr => SmallI w.heap.size w a len cap w.heap.size (w.heap.size + 1) K v i wr) (fun _ i _ => (intOf i).toNat)
  case atStart => exact ⟨z.toNat, [], by rw [Int.toNat_of_nonneg z0], by simp; omega, Hc2.out, Hown2.out, by simp, Hs2.out⟩
  case round =>
    obtain ⟨k, xs, rfl, hk, hat, hown, hok, hbase⟩ := hrel
    have Hat := Lib.hid hat
    obtain ⟨sa, sl, sc, rfl⟩ := own_shape hown
    have Hown := Lib.hid hown
    have Hok := Lib.hid hok
    clear hat hown hok
    by_cases hk0 : 0 < k
    · go_wp2_with fail
      refine (below_at _ _ _ _ _ _ _ (by omega) (by omega) _ Hat.out.here).mono ?_
      rintro e w3 ⟨y, y0, y1, rfl, hc3⟩
      have Hc3 := Lib.hid (show At w.heap.size w a len cap w.heap.size w3 from ⟨hc3.1, Hat.out.2.trans hc3.2⟩)
      have Hown3 := Lib.hid (own_kp Hown.out hc3.2 (by omega))
      have Hs3 := Lib.hid (show w.heap.size + 1 ≤ w3.heap.size from by have := hc3.2.size; omega)
      clear hc3
      obtain ⟨r1, r2, q1, q2, q3⟩ := samp_ok mb K hm HK.out hK60 y y0 y1
      have f1 : ∀ w, fres w .mul .f32 mb (floatOfInt .f32 (y - 1000)) = r1 := fun w => by unfold fres; rw [q1]
      have f2 : ∀ w, fres w .quo .f32 r1 1148846080 = r2 := fun w => by unfold fres; rw [q2]
      have d1 : fdr .mul .f32 mb (floatOfInt .f32 (y - 1000)) = 0 := by unfold fdr; rw [q1]; rfl
      have d2 : fdr .quo .f32 r1 1148846080 = 0 := by unfold fdr; rw [q2]; rfl
      have Hq := Lib.hid q3
      clear q1 q2 q3
      go_wp2_with (at_builtin; refine wpList_append_own _ rfl _ _ 28 rfl (w.heap.size + 1) 31 i0 (.float .f32 0) 1 4 Try.underlying28 hi hz0 hz1 hz2 rfl (by decide) _ _ _ rfl (Hown3.out.alloc _) ⟨w3.heap.size, 0, none⟩ 1 1 [.float .f32 r2] rfl rfl ?c1 ?c2 ?c3 ?c4 ?c5 ?_)
      case c1 =>
        intro j u hj
        match j, hj with
        | 0, hj => simp at hj; subst hj; simp [Addr.add]
      case c2 => intro u hu; simp at hu; subst hu; rfl
      case c3 => unfold maxLen; omega
      case c4 => omega
      case c5 => have := Hs3.out; simp; omega
      · intro v' w4 hown4 hgrow _
        have hrow : ∀ q, (Value.slice sa sl sc).ownBlock = some q → w.heap.size + 1 ≤ q := fun q hq => own_ge Hown3.out q hq
        have Hc4 := Lib.hid ((Hc3.out.alloc _).grown hgrow hrow (by omega) (by omega) (by omega))
        have Hs4 := Lib.hid (show w.heap.size + 1 ≤ w4.heap.size from by have := hgrow.size; have := Hs3.out; simp at *; omega)
        rw [show cellsS xs ++ [Value.float .f32 r2] = cellsS (xs ++ [r2]) from by simp [cellsS], show xs.length + 1 = (xs ++ [r2]).length from by simp] at hown4
        have Hown4 := Lib.hid hown4
        have Hok4 := Lib.hid (show ∀ x ∈ xs ++ [r2], Samp K x from by
          intro x hx
          rcases List.mem_append.1 hx with hx | hx
          · exact Hok.out x hx
          · simp at hx; subst hx; exact Hq.out)
        clear hown4 hgrow hrow
        go_wp2_with fail
        go_roundw
        case rel => exact ⟨k - 1, xs ++ [r2], by rw [show ((k - 1 : Nat) : Int) = (k : Int) - 1 from by omega], by simp; omega, Hc4.out, Hown4.out, Hok4.out, Hs4.out⟩
        case measure => simp only [intOf]; omega
    · go_wp2_with fail
      go_ret
      exact ⟨xs, _, rfl, by omega, Hok.out, own_base Hown.out (by omega), Hat.out.toNw (Nat.le_refl _)⟩

/-! ### the laws' own bytes -/
theorem ret_int' {k : IntKind} {a b : Int} (h : a = b) : Ending.returned (.int k a) = .returned (.int k b) := by rw [h]
def AtP (w : World) (e : Ending) (w' : World) : Prop := ∃ z : Nat, z ≤ 255 ∧ e = .returned (.int .i64 (z : Int)) ∧ w = w'
theorem at_any (a : Option Addr) (len cap i : Nat) (hl : len ≤ 1048576) (hi : i ≤ 100) (w : World) (hb : Bys w.heap.size a len w) :
    Calls Try.prog 12 #[.slice a len cap, .int .i64 (i : Int)] w (AtP w) := by
  by_cases hlt : i < len
  · rcases hb.2 with h00 | ⟨blk, off, rfl, hblk, hcell⟩
    · omega
    · obtain ⟨x, hx, hcx⟩ := hcell i hlt
      clear hcell hb
      go_enter Try.func12, Try.ntmps12
      go_wp2
      go_ret
      exact ⟨x, hx, rfl, rfl⟩
  · clear hb
    go_enter Try.func12, Try.ntmps12
    go_wp2
    go_ret
    exact ⟨(i * 37 + len * 11) % 256, by omega, ret_int' (show ((i : Int) * 37 + len * 11) % 256 = (((i * 37 + len * 11) % 256 : Nat) : Int) by omega), rfl⟩

end Go.Proofs.Ytlhhcchncobmhaa

/- One step of a mode in single precision: its bits, how near it is to the exact step, and the walks of MultiplySingle, ScaleSingle and StepMode.
   Conditions: those that each statement names. -/
namespace Go.Proofs.Ytlhhcchncobmhaa
set_option linter.unusedSimpArgs false
set_option linter.unusedVariables false
open Go Go.RowKit

/-- the bits of an operation that has a number, or an infinity, as its result -/
def opB (o : BinOp) (k : FloatKind) (x y : Nat) : Nat := (floatBits o k x y).getD 0
/-- it draws nothing -/
def Calm (o : BinOp) (k : FloatKind) (x y : Nat) : Prop := floatBits o k x y = some (opB o k x y)
theorem Calm.of {o : BinOp} {k : FloatKind} {x y r : Nat} (h : floatBits o k x y = some r) : Calm o k x y ∧ opB o k x y = r := by
  have e : opB o k x y = r := by unfold opB; rw [h]; rfl
  exact ⟨by unfold Calm; rw [e]; exact h, e⟩
theorem Calm.res {o : BinOp} {k : FloatKind} {x y : Nat} (h : Calm o k x y) (w : World) : fres w o k x y = opB o k x y := by unfold fres; rw [h]
theorem Calm.fdr {o : BinOp} {k : FloatKind} {x y : Nat} (h : Calm o k x y) : fdr o k x y = 0 := by unfold Go.Proofs.Ytlhhcchncobmhaa.fdr; rw [h]; rfl

theorem Calm.run {P : Program} {k : FloatKind} {x y : Nat} (h : Calm .add k x y) (t : TypeId) (w : World) : (binOp .add t (.float k x) (.float k y)).run P w = .ok (.float k (opB .add k x y)) w := by
  rw [run_fl_add, h.res, h.fdr]; rfl

/-! ### products in single precision -/
def mulSre (a b c d : Nat) : Nat := Flo.nar (opB .sub .f64 (opB .mul .f64 (wid a) (wid c)) (opB .mul .f64 (wid b) (wid d)))
def mulSim (a b c d : Nat) : Nat := Flo.nar (opB .add .f64 (opB .mul .f64 (wid a) (wid d)) (opB .mul .f64 (wid b) (wid c)))

/-- all that is known of one part of a product: nothing is drawn, and the result is near the exact one -/
structure PartOk (o : BinOp) (a c b d : Nat) (exact D K : Rat) : Prop where
  c1 : Calm .mul .f64 (wid a) (wid c)
  c2 : Calm .mul .f64 (wid b) (wid d)
  c3 : Calm o .f64 (opB .mul .f64 (wid a) (wid c)) (opB .mul .f64 (wid b) (wid d))
  n1 : ∀ w, fcv w .f64 (opB o .f64 (opB .mul .f64 (wid a) (wid c)) (opB .mul .f64 (wid b) (wid d))) .f32 = Flo.nar (opB o .f64 (opB .mul .f64 (wid a) (wid c)) (opB .mul .f64 (wid b) (wid d)))
  n2 : fcd .f64 (opB o .f64 (opB .mul .f64 (wid a) (wid c)) (opB .mul .f64 (wid b) (wid d))) .f32 = 0
  num : Sm (Flo.nar (opB o .f64 (opB .mul .f64 (wid a) (wid c)) (opB .mul .f64 (wid b) (wid d))))
  near : Flo.Ab (S (Flo.nar (opB o .f64 (opB .mul .f64 (wid a) (wid c)) (opB .mul .f64 (wid b) (wid d)))) - exact) (D * Flo.v + (D + K) * Flo.v / 16777216 + 2 * Flo.es)

theorem uv : Flo.u ≤ Flo.v / 536870912 := Flo.u_le_v

/-- the sums of the errors, in plain numbers -/
theorem part_sum (D K u v et es : Rat) (hD : 0 ≤ D) (hK : 0 ≤ K) (u0 : 0 < u) (huv : u ≤ v / 536870912) (ve : v * 16777216 = 1) (e0 : 0 < et) (ee : et ≤ es / 1024) :
    0 ≤ K * u ∧ K * u ≤ K / 1048576 ∧ (D + 2 * (K * u + et)) * u + et + 2 * (K * u + et) ≤ D / 1048576 + K / 1048576 + es ∧
    (D + ((D + 2 * (K * u + et)) * u + et + 2 * (K * u + et))) * v + es + ((D + 2 * (K * u + et)) * u + et + 2 * (K * u + et)) ≤ D * v + (D + K) * v / 16777216 + 2 * es := by
  have hv : v = 1 / 16777216 := by grind
  subst hv
  have u1 : u ≤ 1 / 1048576 := by grind
  have k1 := Rat.mul_le_mul_of_nonneg_left huv hK
  have k2 := Rat.mul_nonneg hK (Rat.le_of_lt u0)
  have d1 := Rat.mul_le_mul_of_nonneg_left huv hD
  have d2 := Rat.mul_nonneg hD (Rat.le_of_lt u0)
  have k3 := Rat.mul_le_mul_of_nonneg_left u1 k2
  have k4 := Rat.mul_nonneg k2 (Rat.le_of_lt u0)
  have t1 := Rat.mul_le_mul_of_nonneg_left u1 (Rat.le_of_lt e0)
  have t2 := Rat.mul_nonneg (Rat.le_of_lt e0) (Rat.le_of_lt u0)
  refine ⟨k2, by grind, by grind, by grind⟩

structure Small' : Prop where
  ee : Flo.et ≤ Flo.es / 1024
  es1 : Flo.es ≤ 1 / 1048576
  o120 : 1 ≤ Flo.pw 120
  l0 : Flo.pw 127 < Flo.pw 1023
  l2 : Flo.pw 123 = 8 * Flo.pw 120
  l3 : Flo.pw 126 = 2 * Flo.pw 125
  l4 : Flo.pw 127 = 2 * Flo.pw 126
  l5 : Flo.pw 125 = 4 * Flo.pw 123
theorem small' : Small' where
  ee := by
    have : Flo.pw (-1074) ≤ Flo.pw (-159) := Flo.pw_le (by omega)
    have e2 : Flo.pw (-149) = 1024 * Flo.pw (-159) := by rw [show (-149 : Int) = 10 + -159 from rfl, Flo.pw_add, show Flo.pw 10 = 1024 from Flo.pw_nat 10]
    unfold Flo.et Flo.es
    grind
  es1 := by
    have h : Flo.pw (-149) ≤ Flo.pw (-20) := Flo.pw_le (by omega)
    have e := Flo.pw_neg_mul 20
    rw [show Flo.pw 20 = 1048576 from Flo.pw_nat 20] at e
    unfold Flo.es; grind
  o120 := by rw [← Flo.pw_zero]; exact Flo.pw_le (by omega)
  l0 := Flo.pw_lt (by omega)
  l2 := by rw [show (123 : Int) = 3 + 120 from rfl, Flo.pw_add, show Flo.pw 3 = 8 from Flo.pw_nat 3]
  l3 := by rw [← Flo.pw_succ]; rfl
  l4 := by rw [← Flo.pw_succ]; rfl
  l5 := by rw [show (125 : Int) = 2 + 123 from rfl, Flo.pw_add, show Flo.pw 2 = 4 from Flo.pw_nat 2]

/-- what the rounded difference of two rounded products is -/
theorem part_sub (a c b d : Nat) (ha : Sm a) (hc : Sm c) (hb : Sm b) (hd : Sm d) (K D : Rat) (h1 : Flo.Ab (S a * S c) K) (h2 : Flo.Ab (S b * S d) K) (hD : Flo.Ab (S a * S c - S b * S d) D) (hK : K ≤ Flo.pw 120) (hDt : D ≤ Flo.pw 125) :
    PartOk .sub a c b d (S a * S c - S b * S d) D K := by
  obtain ⟨na, va⟩ := wid_num ha
  obtain ⟨nc, vc⟩ := wid_num hc
  obtain ⟨nb, vb⟩ := wid_num hb
  obtain ⟨nd, vd⟩ := wid_num hd
  obtain ⟨ee, es1, o120, l0, l2, l3, l4, l5⟩ := small'
  obtain ⟨s0, s1, s2, s3⟩ := part_sum D K Flo.u Flo.v Flo.et Flo.es hD.nonneg h1.nonneg Flo.u_pos uv Flo.v_eq Flo.et_pos ee
  have e0 := Flo.et_pos
  obtain ⟨p, p1, p2, p3⟩ := Flo.d_mul (wid a) (wid c) na nc K (by rw [va, vc]; exact h1) (by grind)
  obtain ⟨q, q1, q2, q3⟩ := Flo.d_mul (wid b) (wid d) nb nd K (by rw [vb, vd]; exact h2) (by grind)
  rw [va, vc] at p3
  rw [vb, vd] at q3
  have hpq : Flo.Ab (Flo.W p - Flo.W q) (D + 2 * (K * Flo.u + Flo.et)) := ((hD.add (p3.sub q3)).eq (by grind)).mono (by grind)
  obtain ⟨r, r1, r2, r3⟩ := Flo.d_sub p q p2 q2 _ hpq (by grind)
  obtain ⟨c1, b1⟩ := Calm.of p1
  obtain ⟨c2, b2⟩ := Calm.of q1
  obtain ⟨c3, b3⟩ := Calm.of r1
  have hr : Flo.Ab (Flo.W r - (S a * S c - S b * S d)) ((D + 2 * (K * Flo.u + Flo.et)) * Flo.u + Flo.et + 2 * (K * Flo.u + Flo.et)) := ((r3.add (p3.sub q3)).eq (by grind)).mono (by grind)
  obtain ⟨m1, m2, m3, m4⟩ := Flo.narrow_ok r r2 _ ((hD.add hr).eq (show _ = Flo.W r by grind)) (by grind)
  rw [← b1, ← b2] at c3 b3
  rw [← b3] at m1 m2 m3 m4 hr
  exact ⟨c1, c2, c3, m1, m2, m3, ((m4.add hr).eq (by grind)).mono s3⟩

/-- .. and the sum -/
theorem part_add (a c b d : Nat) (ha : Sm a) (hc : Sm c) (hb : Sm b) (hd : Sm d) (K D : Rat) (h1 : Flo.Ab (S a * S c) K) (h2 : Flo.Ab (S b * S d) K) (hD : Flo.Ab (S a * S c + S b * S d) D) (hK : K ≤ Flo.pw 120) (hDt : D ≤ Flo.pw 125) :
    PartOk .add a c b d (S a * S c + S b * S d) D K := by
  obtain ⟨na, va⟩ := wid_num ha
  obtain ⟨nc, vc⟩ := wid_num hc
  obtain ⟨nb, vb⟩ := wid_num hb
  obtain ⟨nd, vd⟩ := wid_num hd
  obtain ⟨ee, es1, o120, l0, l2, l3, l4, l5⟩ := small'
  obtain ⟨s0, s1, s2, s3⟩ := part_sum D K Flo.u Flo.v Flo.et Flo.es hD.nonneg h1.nonneg Flo.u_pos uv Flo.v_eq Flo.et_pos ee
  have e0 := Flo.et_pos
  obtain ⟨p, p1, p2, p3⟩ := Flo.d_mul (wid a) (wid c) na nc K (by rw [va, vc]; exact h1) (by grind)
  obtain ⟨q, q1, q2, q3⟩ := Flo.d_mul (wid b) (wid d) nb nd K (by rw [vb, vd]; exact h2) (by grind)
  rw [va, vc] at p3
  rw [vb, vd] at q3
  have hpq : Flo.Ab (Flo.W p + Flo.W q) (D + 2 * (K * Flo.u + Flo.et)) := ((hD.add (p3.add q3)).eq (by grind)).mono (by grind)
  obtain ⟨r, r1, r2, r3⟩ := Flo.d_add p q p2 q2 _ hpq (by grind)
  obtain ⟨c1, b1⟩ := Calm.of p1
  obtain ⟨c2, b2⟩ := Calm.of q1
  obtain ⟨c3, b3⟩ := Calm.of r1
  have hr : Flo.Ab (Flo.W r - (S a * S c + S b * S d)) ((D + 2 * (K * Flo.u + Flo.et)) * Flo.u + Flo.et + 2 * (K * Flo.u + Flo.et)) := ((r3.add (p3.add q3)).eq (by grind)).mono (by grind)
  obtain ⟨m1, m2, m3, m4⟩ := Flo.narrow_ok r r2 _ ((hD.add hr).eq (show _ = Flo.W r by grind)) (by grind)
  rw [← b1, ← b2] at c3 b3
  rw [← b3] at m1 m2 m3 m4 hr
  exact ⟨c1, c2, c3, m1, m2, m3, ((m4.add hr).eq (by grind)).mono s3⟩

/-! ### one step -/
def stepS (m : M4) (s : Nat × Nat) (x : Nat) : Nat × Nat :=
  (opB .add .f32 (mulSre s.1 s.2 m.pr m.pi) (opB .mul .f32 m.gr x), opB .add .f32 (mulSim s.1 s.2 m.pr m.pi) (opB .mul .f32 m.gi x))

structure StepOk (m : M4) (s : Nat × Nat) (x : Nat) : Prop where
  s1 : Sm s.1
  s2 : Sm s.2
  p1 : ∃ e D K, PartOk .sub s.1 m.pr s.2 m.pi e D K
  p2 : ∃ e D K, PartOk .add s.1 m.pi s.2 m.pr e D K
  c1 : Calm .mul .f32 m.gr x
  c2 : Calm .mul .f32 m.gi x
  c3 : Calm .add .f32 (mulSre s.1 s.2 m.pr m.pi) (opB .mul .f32 m.gr x)
  c4 : Calm .add .f32 (mulSim s.1 s.2 m.pr m.pi) (opB .mul .f32 m.gi x)

theorem M4.ok.nums {m : M4} (h : m.ok) : Sm m.pr ∧ Sm m.pi ∧ Sm m.gr ∧ Sm m.gi := by
  obtain ⟨h1, h2, h3, h4, -, -, -⟩ := Valid.parts h
  exact ⟨Sm_of h1, Sm_of h2, Sm_of h3, Sm_of h4⟩

/-- a valid pole's parts are at most 2 -/
theorem M4.ok.pole {m : M4} (h : m.ok) : Flo.Ab (S m.pr) 2 ∧ Flo.Ab (S m.pi) 2 := by
  have hs := Valid.square h
  have a := square_nonneg (S m.pr)
  have b := square_nonneg (S m.pi)
  have key : ∀ q : Rat, q * q ≤ 2 → Flo.Ab q 2 := by
    intro q hq
    constructor
    · rcases Rat.le_total (a := -2) (b := q) with g | g
      · exact g
      · have := Rat.mul_le_mul_of_nonneg_left g (show (0 : Rat) ≤ 2 by grind)
        have g2 := Rat.mul_nonneg (show 0 ≤ -2 - q by grind) (show 0 ≤ -2 - q by grind)
        grind
    · rcases Rat.le_total (a := q) (b := 2) with g | g
      · exact g
      · have g2 := Rat.mul_nonneg (show 0 ≤ q - 2 by grind) (show 0 ≤ q - 2 by grind)
        grind
  exact ⟨key _ (by grind), key _ (by grind)⟩

/-- the sums of the errors of one part, in plain numbers -/
theorem step_sum (D R H v es : Rat) (hD : 0 ≤ D) (hR : 0 ≤ R) (hH : 0 ≤ H) (ve : v * 16777216 = 1) (e0 : 0 < es) :
    (D + (D * v + (D + 2 * R) * v / 16777216 + 2 * es) + (H + (H * v + es))) * v + es + (D * v + (D + 2 * R) * v / 16777216 + 2 * es) + (H * v + es) ≤ (2 * D + 2 * H) * v + (D + R + H) * v / 1024 + 6 * es := by
  have hv : v = 1 / 16777216 := by grind
  subst hv
  grind

theorem part_step (p g x : Nat) (hp : Sm p) (hg : Sm g) (hx : Sm x) (e D R H : Rat) (hR : 0 ≤ R) (he : Flo.Ab e D) (hn : Flo.Ab (S p - e) (D * Flo.v + (D + 2 * R) * Flo.v / 16777216 + 2 * Flo.es)) (hH : Flo.Ab (S g * S x) H)
    (hRt : R ≤ Flo.pw 110) (hDt : D ≤ Flo.pw 112) (hHt : H ≤ Flo.pw 112) :
    Calm .mul .f32 g x ∧ Calm .add .f32 p (opB .mul .f32 g x) ∧ Sm (opB .add .f32 p (opB .mul .f32 g x)) ∧ Flo.Ab (S (opB .add .f32 p (opB .mul .f32 g x)) - (e + S g * S x)) ((2 * D + 2 * H) * Flo.v + (D + R + H) * Flo.v / 1024 + 6 * Flo.es) := by
  have l1 : Flo.pw 112 = 4 * Flo.pw 110 := by rw [show (112 : Int) = 2 + 110 from rfl, Flo.pw_add, show Flo.pw 2 = 4 from Flo.pw_nat 2]
  have l2 : Flo.pw 120 = 256 * Flo.pw 112 := by rw [show (120 : Int) = 8 + 112 from rfl, Flo.pw_add, show Flo.pw 8 = 256 from Flo.pw_nat 8]
  have l3 := Flo.pw_lt (a := 120) (b := 127) (by omega)
  have l4 : 1 ≤ Flo.pw 110 := by rw [← Flo.pw_zero]; exact Flo.pw_le (by omega)
  have es1 := small'.es1
  have es0 := Flo.es_pos
  have v0 := Flo.v_pos
  have ve := Flo.v_eq
  have hv : Flo.v = 1 / 16777216 := by grind
  have hD0 := he.nonneg
  have hH0 := hH.nonneg
  obtain ⟨g1, a1, a2, a3⟩ := Flo.s_mul g x hg hx H hH (by grind)
  obtain ⟨c1, b1⟩ := Calm.of a1
  have hs : Flo.Ab (S p + S g1) (D + (D * Flo.v + (D + 2 * R) * Flo.v / 16777216 + 2 * Flo.es) + (H + (H * Flo.v + Flo.es))) := ((he.add hn).add (hH.add a3)).eq (by grind)
  obtain ⟨r, r1, r2, r3⟩ := Flo.s_add p g1 hp a2 _ hs (by rw [hv]; grind)
  obtain ⟨c2, b2⟩ := Calm.of r1
  rw [← b1] at c2 b2 a3
  rw [← b1] at r3
  refine ⟨c1, c2, by rw [b2]; exact r2, ?_⟩
  rw [b2]
  exact (((r3.add hn).add a3).eq (by grind)).mono (step_sum D R H Flo.v Flo.es hD0 hR hH0 ve es0)

/-- ONE STEP OF A VALID MODE: nothing is drawn, and the new state is near the exact one. -/
theorem step_ok (m : M4) (hm : m.ok) (s : Nat × Nat) (x : Nat) (h1 : Sm s.1) (h2 : Sm s.2) (hx : Sm x) (R D H : Rat) (r1 : Flo.Ab (S s.1) R) (r2 : Flo.Ab (S s.2) R)
    (d1 : Flo.Ab (S s.1 * S m.pr - S s.2 * S m.pi) D) (d2 : Flo.Ab (S s.1 * S m.pi + S s.2 * S m.pr) D) (g1 : Flo.Ab (S m.gr * S x) H) (g2 : Flo.Ab (S m.gi * S x) H) (hRt : R ≤ Flo.pw 110) (hDt : D ≤ Flo.pw 112) (hHt : H ≤ Flo.pw 112) :
    StepOk m s x ∧ Sm (stepS m s x).1 ∧ Sm (stepS m s x).2 ∧
      Flo.Ab (S (stepS m s x).1 - (S s.1 * S m.pr - S s.2 * S m.pi + S m.gr * S x)) ((2 * D + 2 * H) * Flo.v + (D + R + H) * Flo.v / 1024 + 6 * Flo.es) ∧
      Flo.Ab (S (stepS m s x).2 - (S s.1 * S m.pi + S s.2 * S m.pr + S m.gi * S x)) ((2 * D + 2 * H) * Flo.v + (D + R + H) * Flo.v / 1024 + 6 * Flo.es) := by
  obtain ⟨n1, n2, n3, n4⟩ := hm.nums
  obtain ⟨q1, q2⟩ := hm.pole
  have hR0 := r1.nonneg
  have l1 : Flo.pw 120 = 1024 * Flo.pw 110 := by rw [show (120 : Int) = 10 + 110 from rfl, Flo.pw_add, show Flo.pw 10 = 1024 from Flo.pw_nat 10]
  have l2 := Flo.pw_lt (a := 112) (b := 125) (by omega)
  have l3 := Flo.pw_pos 110
  have k1 : Flo.Ab (S s.1 * S m.pr) (2 * R) := (r1.mul q1).mono (by grind)
  have k2 : Flo.Ab (S s.2 * S m.pi) (2 * R) := (r2.mul q2).mono (by grind)
  have k3 : Flo.Ab (S s.1 * S m.pi) (2 * R) := (r1.mul q2).mono (by grind)
  have k4 : Flo.Ab (S s.2 * S m.pr) (2 * R) := (r2.mul q1).mono (by grind)
  have P1 := part_sub s.1 m.pr s.2 m.pi h1 n1 h2 n2 (2 * R) D k1 k2 d1 (by grind) (by grind)
  have P2 := part_add s.1 m.pi s.2 m.pr h1 n2 h2 n1 (2 * R) D k3 k4 d2 (by grind) (by grind)
  obtain ⟨a1, a2, a3, a4⟩ := part_step _ m.gr x P1.num n3 hx _ D R H hR0 d1 P1.near g1 hRt hDt hHt
  obtain ⟨b1, b2, b3, b4⟩ := part_step _ m.gi x P2.num n4 hx _ D R H hR0 d2 P2.near g2 hRt hDt hHt
  exact ⟨⟨h1, h2, ⟨_, _, _, P1⟩, ⟨_, _, _, P2⟩, a1, b1, a2, b2⟩, a3, b3, a4, b4⟩

/-! ### the walks -/
theorem implMul_calm (a b c d : Nat) (w : World) (h1 : Calm .mul .f64 a c) (h2 : Calm .mul .f64 b d) (h3 : Calm .sub .f64 (opB .mul .f64 a c) (opB .mul .f64 b d))
    (h4 : Calm .mul .f64 a d) (h5 : Calm .mul .f64 b c) (h6 : Calm .add .f64 (opB .mul .f64 a d) (opB .mul .f64 b c)) :
    Calls Try.prog 22 #[.complex .f64 a b, .complex .f64 c d] w fun e w' =>
      e = .returned (.complex .f64 (opB .sub .f64 (opB .mul .f64 a c) (opB .mul .f64 b d)) (opB .add .f64 (opB .mul .f64 a d) (opB .mul .f64 b c))) ∧ w = w' := by
  have r1 := h1.res
  have r2 := h2.res
  have r3 := h3.res
  have r4 := h4.res
  have r5 := h5.res
  have r6 := h6.res
  have q1 := h1.fdr
  have q2 := h2.fdr
  have q3 := h3.fdr
  have q4 := h4.fdr
  have q5 := h5.fdr
  have q6 := h6.fdr
  clear h1 h2 h3 h4 h5 h6
  go_enter Try.func22, Try.ntmps22
  go_wp2
  all_goals (go_ret; exact ⟨rfl, rfl⟩)

theorem implNarrow_ok (p q r s : Nat) (w : World) (h1 : ∀ w, fcv w .f64 p .f32 = r) (h2 : ∀ w, fcv w .f64 q .f32 = s) (h3 : fcd .f64 p .f32 = 0) (h4 : fcd .f64 q .f32 = 0) :
    Calls Try.prog 85 #[.complex .f64 p q] w fun e w' => e = .returned (.complex .f32 r s) ∧ w = w' := by
  go_enter Try.func85, Try.ntmps85
  go_wp2
  go_ret
  exact ⟨rfl, rfl⟩

theorem implMulSingle_ok (a b c d : Nat) (w : World) (ha : Sm a) (hb : Sm b) (hc : Sm c) (hd : Sm d) (h1 : ∃ e D K, PartOk .sub a c b d e D K) (h2 : ∃ e D K, PartOk .add a d b c e D K) :
    Calls Try.prog 111 #[.complex .f32 a b, .complex .f32 c d] w fun e w' => e = .returned (.complex .f32 (mulSre a b c d) (mulSim a b c d)) ∧ w = w' := by
  obtain ⟨_, _, _, P1⟩ := h1
  obtain ⟨_, _, _, P2⟩ := h2
  go_enter Try.func111, Try.ntmps111
  go_wp2_with fail
  refine (implWiden_fin _ _ _ ha hb).mono ?_
  rintro e w' ⟨rfl, rfl⟩
  go_wp2_with fail
  refine (implWiden_fin _ _ _ hc hd).mono ?_
  rintro e w' ⟨rfl, rfl⟩
  go_wp2_with fail
  refine (implMul_calm _ _ _ _ _ P1.c1 P1.c2 P1.c3 P2.c1 P2.c2 P2.c3).mono ?_
  rintro e w' ⟨rfl, rfl⟩
  go_wp2_with fail
  refine (implNarrow_ok _ _ _ _ _ P1.n1 P2.n1 P1.n2 P2.n2).mono ?_
  rintro e w' ⟨rfl, rfl⟩
  go_wp2
  go_ret
  exact ⟨rfl, rfl⟩

theorem implScale_ok (a b x : Nat) (w : World) (h1 : Calm .mul .f32 a x) (h2 : Calm .mul .f32 b x) :
    Calls Try.prog 94 #[.complex .f32 a b, .float .f32 x] w fun e w' => e = .returned (.complex .f32 (opB .mul .f32 a x) (opB .mul .f32 b x)) ∧ w = w' := by
  have r1 := h1.res
  have r2 := h2.res
  have q1 := h1.fdr
  have q2 := h2.fdr
  clear h1 h2
  go_enter Try.func94, Try.ntmps94
  go_wp2
  all_goals (go_ret; exact ⟨rfl, rfl⟩)

theorem stepMode_ok (m : M4) (hm : m.ok) (s : Nat × Nat) (x : Nat) (w : World) (h : StepOk m s x) :
    Calls Try.prog 95 #[.agg #[.complex .f32 m.pr m.pi, .complex .f32 m.gr m.gi], .complex .f32 s.1 s.2, .float .f32 x] w (TupP (.complex .f32 (stepS m s x).1 (stepS m s x).2) w) := by
  obtain ⟨n1, n2, n3, n4⟩ := hm.nums
  obtain ⟨s1, s2, p1, p2, c1, c2, c3, c4⟩ := h
  have r3 := c3.res
  have r4 := c4.res
  have q3 := c3.fdr
  have q4 := c4.fdr
  have P1 := Lib.hid p1
  have P2 := Lib.hid p2
  have C1 := Lib.hid c1
  have C2 := Lib.hid c2
  clear p1 p2 c1 c2 c3 c4
  go_enter Try.func95, Try.ntmps95
  go_wp2_with fail
  go_quiet (first
    | (go_at_call 111; exact quiet_eq (implMulSingle_ok _ _ _ _ _ s1 s2 n1 n2 P1.out P2.out))
    | (go_at_call 94; exact quiet_eq (implScale_ok _ _ _ _ C1.out C2.out)))
  go_wp2
  go_ret
  exact ⟨rfl, ((Nw.refl _).alloc _).draw _⟩

end Go.Proofs.Ytlhhcchncobmhaa

/- The walks of stepStates, IsBody and RingBody, where nothing overflows: bit for bit.
   Conditions: those that each statement names. -/
namespace Go.Proofs.Ytlhhcchncobmhaa
set_option linter.unusedSimpArgs false
set_option linter.unusedVariables false
open Go Go.RowKit

/-! ### the bits of ringing -/
def stepAll (ms : List M4) (ss : List (Nat × Nat)) (x : Nat) : List (Nat × Nat) := List.zipWith (fun m s => stepS m s x) ms ss
def outS (ss : List (Nat × Nat)) : Nat := ss.foldl (fun y s => opB .add .f32 y s.1) 0
def cellsC (ss : List (Nat × Nat)) : List Value := ss.map fun s => .complex .f32 s.1 s.2

/-- nothing overflows as the outputs are summed -/
def SumOk (ss : List (Nat × Nat)) : Prop := ∀ (k : Nat) s, ss[k]? = some s → Calm .add .f32 (outS (ss.take k)) s.1
theorem outS_take (ss : List (Nat × Nat)) (k : Nat) (s : Nat × Nat) (h : ss[k]? = some s) : outS (ss.take (k + 1)) = opB .add .f32 (outS (ss.take k)) s.1 := by
  have hk := (List.getElem?_eq_some_iff.1 h)
  obtain ⟨hk, he⟩ := hk
  rw [List.take_succ_eq_append_getElem hk, he]
  simp [outS, List.foldl_append]

/-- the states when k modes have been stepped -/
def mixed (ms : List M4) (ss : List (Nat × Nat)) (x k : Nat) : List (Nat × Nat) := (stepAll ms ss x).take k ++ ss.drop k

theorem own_mode {w : World} {base n k : Nat} {v : Value} {ms : List M4} (h : w.ownsRow base 61 2 v n (cellsM ms)) {m : M4} (hk : ms[k]? = some m) (hn : n = ms.length) :
    ∃ g cap, v = .slice (some ⟨g, 0, none⟩) n cap ∧ n ≤ cap ∧ cap ≤ maxLen ∧ g < w.heap.size ∧ w.cell? ⟨g, k * 2, none⟩ = some (.complex .f32 m.pr m.pi) ∧ w.cell? ⟨g, k * 2 + 1, none⟩ = some (.complex .f32 m.gr m.gi) := by
  have hkl := (List.getElem?_eq_some_iff.1 hk).1
  rcases h.2 with ⟨_, h0⟩ | ⟨g, cap, cur, rfl, hb, hg, hc, hm, hs, ht⟩
  · omega
  · have c1 := h.cellAt (2 * k) (by omega)
    have c2 := h.cellAt (2 * k + 1) (by omega)
    rw [(cellsM_at ms k m hk).1] at c1
    rw [(cellsM_at ms k m hk).2] at c2
    rw [Nat.mul_comm] at c1 c2
    exact ⟨g, cap, rfl, hc, hm, (h.lt g rfl).2, c1, c2⟩

theorem own_shape' {w : World} {base : Nat} {E : TypeId} {size : Nat} {v : Value} {n : Nat} {xs : List Value} (h : w.ownsRow base E size v n xs) : ∃ a c, v = .slice a n c := by
  rcases h.2 with ⟨rfl, rfl⟩ | ⟨g, cap, cur, rfl, _⟩
  · exact ⟨_, _, rfl⟩
  · exact ⟨_, _, rfl⟩

theorem mixed_at (ms : List M4) (ss : List (Nat × Nat)) (x k : Nat) (s : Nat × Nat) (hl : ms.length = ss.length) (h : ss[k]? = some s) : (cellsC (mixed ms ss x k))[k]? = some (.complex .f32 s.1 s.2) := by
  have hk := (List.getElem?_eq_some_iff.1 h).1
  have hlen : ((stepAll ms ss x).take k).length = k := by simp [stepAll]; omega
  unfold mixed cellsC
  rw [List.getElem?_map, List.getElem?_append_right (by omega), hlen, Nat.sub_self, List.getElem?_drop, Nat.add_zero, h]
  rfl

theorem _root_.Go.World.grownBy.trans' {a b c : World} {row : Option Nat} (h : a.grownBy b row) (k : b.grownBy c row) : a.grownBy c row :=
  ⟨k.os.trans h.os, k.tape.trans h.tape, k.output.trans h.output, Nat.le_trans h.size k.size, fun i hi hne => (k.block i (Nat.lt_of_lt_of_le hi h.size) hne).trans (h.block i hi hne)⟩

theorem stepAll_at (ms : List M4) (ss : List (Nat × Nat)) (x k : Nat) (m : M4) (s : Nat × Nat) (hm : ms[k]? = some m) (hs : ss[k]? = some s) : (stepAll ms ss x)[k]? = some (stepS m s x) := by
  unfold stepAll; rw [List.getElem?_zipWith, hm, hs]
theorem mixed_step (ms : List M4) (ss : List (Nat × Nat)) (x k : Nat) (m : M4) (s : Nat × Nat) (hm : ms[k]? = some m) (hs : ss[k]? = some s) :
    (cellsC (mixed ms ss x k)).set k (.complex .f32 (stepS m s x).1 (stepS m s x).2) = cellsC (mixed ms ss x (k + 1)) := by
  obtain ⟨hkm, -⟩ := List.getElem?_eq_some_iff.1 hm
  obtain ⟨hks, hse⟩ := List.getElem?_eq_some_iff.1 hs
  have hlen : ((stepAll ms ss x).take k).length = k := by simp [stepAll]; omega
  have hat := stepAll_at ms ss x k m s hm hs
  obtain ⟨hka, hae⟩ := List.getElem?_eq_some_iff.1 hat
  unfold mixed
  rw [List.take_succ_eq_append_getElem hka, hae, List.drop_eq_getElem_cons hks, hse]
  simp only [cellsC, List.map_append, List.map_cons, List.map_nil, List.append_assoc, List.singleton_append]
  rw [List.set_append_right _ _ (by simp [stepAll]; omega)]
  simp [stepAll, show k - min k (min ms.length ss.length) = 0 from by omega]
theorem mixed_after (ms : List M4) (ss : List (Nat × Nat)) (x k : Nat) (m : M4) (s : Nat × Nat) (hm : ms[k]? = some m) (hs : ss[k]? = some s) :
    (cellsC (mixed ms ss x (k + 1)))[k]? = some (.complex .f32 (stepS m s x).1 (stepS m s x).2) := by
  obtain ⟨hkm, -⟩ := List.getElem?_eq_some_iff.1 hm
  obtain ⟨hks, hse⟩ := List.getElem?_eq_some_iff.1 hs
  rw [← mixed_step ms ss x k m s hm hs, List.getElem?_set_self]
  simp [cellsC, mixed, stepAll]; omega
theorem mixed_full (ms : List M4) (ss : List (Nat × Nat)) (x : Nat) (hl : ms.length = ss.length) : mixed ms ss x ms.length = stepAll ms ss x := by
  unfold mixed
  rw [List.take_of_length_le (by simp [stepAll]; omega), List.drop_of_length_le (by omega), List.append_nil]

theorem grown_cell {w w' : World} {row : Option Nat} (h : w.grownBy w' row) {p : Addr} (hp : p.block < w.heap.size) (hne : some p.block ≠ row) : w'.cell? p = w.cell? p :=
  World.cell?_of_block (w := w) (h.block p.block hp hne)
theorem grown_frozen {w w' : World} {row : Option Nat} (h : w.grownBy w' row) {p : Addr} (hp : p.block < w.heap.size) (hne : some p.block ≠ row) : w'.frozen? p = w.frozen? p :=
  World.frozen?_of_block (w := w) (h.block p.block hp hne)

def StepsP (gs bs n : Nat) (ss' : List (Nat × Nat)) (w : World) (e : Ending) (w' : World) : Prop :=
  e = .returned (.float .f32 (outS ss')) ∧ w'.ownsRow bs 59 1 (.slice (some ⟨gs, 0, none⟩) n n) n (cellsC ss') ∧ w.grownBy w' (some gs)

def StepsI (ms : List M4) (ss : List (Nat × Nat)) (x gs bs n : Nat) (w : World) (y i : Value) (wr : World) : Prop :=
  ∃ k : Nat, k ≤ n ∧ i = .int .i64 (k : Int) ∧ y = .float .f32 (outS ((stepAll ms ss x).take k)) ∧ wr.ownsRow bs 59 1 (.slice (some ⟨gs, 0, none⟩) n n) n (cellsC (mixed ms ss x k)) ∧ w.grownBy wr (some gs)

set_option maxHeartbeats 1600000 in
theorem stepStates_ok (ms : List M4) (hms : ∀ m ∈ ms, m.ok) (ss : List (Nat × Nat)) (x n gs bs bm : Nat) (v : Value) (hn : ms.length = n) (hss : ss.length = n) (hn16 : n ≤ 16) (w : World)
    (hm : w.ownsRow bm 61 2 v n (cellsM ms)) (hs : w.ownsRow bs 59 1 (.slice (some ⟨gs, 0, none⟩) n n) n (cellsC ss)) (hne : v.ownBlock ≠ some gs)
    (hok : ∀ (k : Nat) m s, ms[k]? = some m → ss[k]? = some s → StepOk m s x) (hsum : SumOk (stepAll ms ss x)) :
    Calls Try.prog 59 #[v, .slice (some ⟨gs, 0, none⟩) n n, .float .f32 x] w (StepsP gs bs n (stepAll ms ss x) w) := by
  obtain ⟨va, vc, rfl⟩ := own_shape' hm
  have Hm := Lib.hid hm
  have Hs := Lib.hid hs
  have Hok := Lib.hid hok
  have Hsum := Lib.hid hsum
  have Hms := Lib.hid hms
  have Hn := Lib.hid hn
  have Hss := Lib.hid hss
  clear hm hs hok hsum hms hn hss
  go_enter Try.func59, Try.ntmps59
  go_wp2_with fail
  go_loopw [7, 12] (fun y i wr => StepsI ms ss x gs bs n w y i wr) (fun _ i _ => n - (intOf i).toNat)
  case atStart => exact ⟨0, by omega, rfl, rfl, by rw [show mixed ms ss x 0 = ss from by simp [mixed]]; exact Hs.out, World.grownBy.refl _ _⟩
  case round =>
    obtain ⟨k, hk, rfl, rfl, hown, hgr⟩ := hrel
    have Hown := Lib.hid hown
    have Hgr := Lib.hid hgr
    clear hown hgr
    by_cases hlt : k < n
    · obtain ⟨m, hmk⟩ : ∃ m, ms[k]? = some m := ⟨ms[k]'(by rw [Hn.out]; exact hlt), List.getElem?_eq_getElem _⟩
      obtain ⟨s, hsk⟩ : ∃ s, ss[k]? = some s := ⟨ss[k]'(by rw [Hss.out]; exact hlt), List.getElem?_eq_getElem _⟩
      have Hmr := Lib.hid (Hm.out.kept Hgr.out (.inr hne))
      obtain ⟨g, cap, hv, hcap, hmax, hgs, e1, e2⟩ := own_mode Hmr.out hmk Hn.out.symm
      cases hv
      have hgne : g ≠ gs := fun e => hne (by rw [e]; rfl)
      have hst : (cellsC (mixed ms ss x k))[k]? = some (.complex .f32 s.1 s.2) := mixed_at ms ss x k s (by rw [Hn.out, Hss.out]) hsk
      have e3 := Hown.out.cellAt k (by omega)
      rw [hst] at e3
      have e4 := Hown.out.frozenAt k
      have Hmk := Lib.hid hmk
      have Hsk := Lib.hid hsk
      clear hmk hsk hst
      have hmm : maxLen = 9223372036854775807 := rfl
      unfold maxLen at hmax
      clear hmm
      go_upto_region 5 with fail
      have Hmode := Lib.hid (HasMode.new wr 61 m.pr m.pi m.gr m.gi)
      have Hown4 := Lib.hid (Hown.out.alloc (.cells #[.complex .f32 m.pr m.pi, .complex .f32 m.gr m.gi] 61 (0, 0)))
      have Hgr4 := Lib.hid (Hgr.out.trans' (World.grownBy_alloc wr (.cells #[.complex .f32 m.pr m.pi, .complex .f32 m.gr m.gi] 61 (0, 0)) (some gs)))
      clear e1 e2 e3 e4
      go_cut [] (fun wx => wx.ownsRow bs 59 1 (.slice (some ⟨gs, 0, none⟩) n n) n (cellsC (mixed ms ss x (k + 1))) ∧ w.grownBy wx (some gs))
      case first =>
        obtain ⟨w4, hw4⟩ : ∃ w4, w4 = wr.alloc (.cells #[.complex .f32 m.pr m.pi, .complex .f32 m.gr m.gi] 61 (0, 0)) := ⟨_, rfl⟩
        rw [← hw4] at Hmode Hown4 Hgr4
        rw [← hw4]
        clear hw4
        obtain ⟨l0, l1, l2, l3, l4⟩ := Hmode.out
        have e3 := Hown4.out.cellAt k (by omega)
        rw [mixed_at ms ss x k s (by rw [Hn.out, Hss.out]) Hsk.out] at e3
        have e4 := Hown4.out.frozenAt k
        have hgs4 : gs < w4.heap.size := (Hown4.out.lt gs rfl).2
        have Hst := Lib.hid (Hok.out k m s Hmk.out Hsk.out)
        have Hmo := Lib.hid (Hms.out m (List.mem_of_getElem? Hmk.out))
        go_region_with (first
          | (go_at_call 95; refine (stepMode_ok m Hmo.out s x _ Hst.out).mono ?_; rintro e w5 ⟨rfl, n5⟩; have k5 := (n5.cell (p := ⟨gs, k, none⟩) hgs4).trans e3; have f5 := (n5.frozen (p := ⟨gs, k, none⟩) hgs4).trans e4))
        all_goals
          have hfin := And.intro ((own_nw (w := w4.drew) Hown4.out n5).stored k (.complex .f32 (stepS m s x).1 (stepS m s x).2)).1 ((Hgr4.out.trans' ⟨n5.os, n5.tape, n5.output, n5.size, fun q hq _ => n5.block q hq (by simp)⟩).trans' ((own_nw (w := w4.drew) Hown4.out n5).stored k (.complex .f32 (stepS m s x).1 (stepS m s x).2)).2)
          rw [mixed_step ms ss x k m s Hmk.out Hsk.out] at hfin
          have Hfin := Lib.hid hfin
          clear hfin
          go_wp2_with fail
          go_meet
          exact Hfin.out
      case rest =>
        obtain ⟨hown6, hgr6⟩ := hcut
        have e6 := hown6.cellAt k (by omega)
        rw [mixed_after ms ss x k m s Hmk.out Hsk.out] at e6
        have Hown6 := Lib.hid hown6
        have Hgr6 := Lib.hid hgr6
        clear hown6 hgr6
        have hsk := stepAll_at ms ss x k m s Hmk.out Hsk.out
        have hcalm := Hsum.out k _ hsk
        have r1 := hcalm.res
        have d1 := hcalm.fdr
        have Hout := Lib.hid (outS_take _ k _ hsk)
        clear hcalm hsk
        go_wp2_with fail
        go_roundw
        case rel => exact ⟨k + 1, by omega, by rw [show ((k + 1 : Nat) : Int) = (k : Int) + 1 from by omega], by rw [Hout.out], Hown6.out, Hgr6.out⟩
        case measure => simp only [intOf]; omega
    · obtain rfl : k = n := by omega
      have Hfull := Lib.hid (mixed_full ms ss x (Hn.out.trans Hss.out.symm))
      have Hlen := Lib.hid (show (stepAll ms ss x).length = k from by simp [stepAll, Hn.out, Hss.out])
      go_wp2_with fail
      go_ret
      refine ⟨by simp [List.take_of_length_le (Nat.le_of_eq Hlen.out)], ?_, Hgr.out⟩
      have := Hown.out
      rw [show mixed ms ss x k = stepAll ms ss x from by rw [← Hfull.out, Hn.out]] at this
      exact this

end Go.Proofs.Ytlhhcchncobmhaa

/- The walks of IsBody, sampleAt and RingBody, where nothing overflows: bit for bit.
   Conditions: those that each statement names. -/
namespace Go.Proofs.Ytlhhcchncobmhaa
set_option linter.unusedSimpArgs false
set_option linter.unusedVariables false
open Go Go.RowKit

def ValI (n : Nat) (w : World) (i : Value) (wr : World) : Prop := ∃ k : Nat, k ≤ n ∧ i = .int .i64 (k : Int) ∧ Nw w wr

theorem implIsBody_ok (ms : List M4) (hms : ∀ m ∈ ms, m.ok) (n bm : Nat) (v : Value) (hn : ms.length = n) (hn16 : n ≤ 16) (w : World)
    (hm : w.ownsRow bm 61 2 v n (cellsM ms)) :
    Calls Try.prog 83 #[.agg #[v]] w (TestP true w) := by
  obtain ⟨va, vc, rfl⟩ := own_shape' hm
  have Hm := Lib.hid hm
  have Hms := Lib.hid hms
  have Hn := Lib.hid hn
  have Hn0 := Lib.hid ((Nw.refl w).alloc (.cells #[.slice va n vc] 69 (0, 0)))
  clear hm hms hn
  go_enter Try.func83, Try.ntmps83
  go_wp2_with fail
  go_loopw [12] (fun i wr => ValI n w i wr) (fun i _ => n - (intOf i).toNat)
  case atStart => exact ⟨0, by omega, rfl, Hn0.out⟩
  case round =>
    obtain ⟨k, hk, rfl, hnw⟩ := hrel
    have Hnw := Lib.hid hnw
    clear hnw
    by_cases hlt : k < n
    · obtain ⟨m, hmk⟩ : ∃ m, ms[k]? = some m := ⟨ms[k]'(by rw [Hn.out]; exact hlt), List.getElem?_eq_getElem _⟩
      have Hmr := Lib.hid (own_nw Hm.out Hnw.out)
      obtain ⟨g, cap, hv, hcap, hmax, hgs, e1, e2⟩ := own_mode Hmr.out hmk Hn.out.symm
      cases hv
      have Hmo := Lib.hid (Hms.out m (List.mem_of_getElem? hmk))
      unfold maxLen at hmax
      have Hnw4 := Lib.hid (Hnw.out.alloc (.cells #[.complex .f32 m.pr m.pi, .complex .f32 m.gr m.gi] 61 (0, 0)))
      clear hmk
      go_wp2_with fail
      refine (implIsMode_valid _ _ _ _ _ Hmo.out).mono ?_
      rintro e w5 ⟨rfl, n5⟩
      have Hnw5 := Lib.hid (Hnw4.out.trans n5)
      clear n5 e1 e2
      go_wp2_with fail
      go_roundw
      case rel => exact ⟨k + 1, by omega, by rw [show ((k + 1 : Nat) : Int) = (k : Int) + 1 from by omega], Hnw5.out⟩
      case measure => simp only [intOf]; omega
    · go_wp2_with fail
      go_ret
      exact ⟨rfl, Hnw.out⟩

theorem own_sample {w : World} {base n k : Nat} {v : Value} {xs : List Nat} (h : w.ownsRow base 31 1 v n (cellsS xs)) {x : Nat} (hk : xs[k]? = some x) (hn : n = xs.length) :
    ∃ g cap, v = .slice (some ⟨g, 0, none⟩) n cap ∧ n ≤ cap ∧ cap ≤ maxLen ∧ g < w.heap.size ∧ w.cell? ⟨g, k, none⟩ = some (.float .f32 x) := by
  have hkl := (List.getElem?_eq_some_iff.1 hk).1
  rcases h.2 with ⟨_, h0⟩ | ⟨g, cap, cur, rfl, hb, hg, hc, hm, hs, ht⟩
  · omega
  · have c1 := h.cellAt k (by omega)
    rw [show (cellsS xs)[k]? = some (.float .f32 x) from by simp [cellsS, hk]] at c1
    exact ⟨g, cap, rfl, hc, hm, (h.lt g rfl).2, c1⟩

def inputOf (xs : List Nat) (i : Nat) : Nat := xs.getD i 0
theorem sampleAt_any (xs : List Nat) (n bi i : Nat) (v : Value) (hn : xs.length = n) (hi : i ≤ 1048576) (hn2 : n ≤ 1048576) (w : World) (h : w.ownsRow bi 31 1 v n (cellsS xs)) :
    Calls Try.prog 60 #[v, .int .i64 (i : Int)] w fun e w' => e = .returned (.float .f32 (inputOf xs i)) ∧ w = w' := by
  obtain ⟨va, vc, rfl⟩ := own_shape' h
  by_cases hlt : i < n
  · obtain ⟨x, hx⟩ : ∃ x, xs[i]? = some x := ⟨xs[i]'(by omega), List.getElem?_eq_getElem _⟩
    obtain ⟨g, cap, hv, hcap, hmax, hgs, e1⟩ := own_sample h hx hn.symm
    cases hv
    have Hx := Lib.hid (show inputOf xs i = x from by unfold inputOf; rw [List.getD_eq_getElem?_getD, hx]; rfl)
    unfold maxLen at hmax
    clear h hx hn
    go_enter Try.func60, Try.ntmps60
    go_wp2
    go_ret
    exact ⟨by rw [Hx.out]; rfl, rfl⟩
  · have Hx := Lib.hid (show inputOf xs i = 0 from by unfold inputOf; rw [List.getD_eq_getElem?_getD, List.getElem?_eq_none (by omega)]; rfl)
    clear h hn
    go_enter Try.func60, Try.ntmps60
    go_wp2
    go_ret
    exact ⟨by rw [Hx.out]; rfl, rfl⟩

/-! ### ringing -/
def stAt (ms : List M4) (x : Nat → Nat) : Nat → List (Nat × Nat)
  | 0 => ms.map fun _ => (0, 0)
  | i + 1 => stepAll ms (stAt ms x i) (x i)
theorem stAt_len (ms : List M4) (x : Nat → Nat) : ∀ i, (stAt ms x i).length = ms.length
  | 0 => by simp [stAt]
  | i + 1 => by simp [stAt, stepAll, stAt_len ms x i]
/-- nothing overflows in the first n steps -/
def RingOk (ms : List M4) (x : Nat → Nat) (n : Nat) : Prop :=
  ∀ i, i < n → (∀ (k : Nat) m s, ms[k]? = some m → (stAt ms x i)[k]? = some s → StepOk m s (x i)) ∧ SumOk (stAt ms x (i + 1))
def ringS (ms : List M4) (x : Nat → Nat) (n : Nat) : List Nat := (List.range n).map fun i => outS (stAt ms x (i + 1))

def RingP (B : Nat) (outs : List Nat) (w : World) (e : Ending) (w' : World) : Prop :=
  ∃ v : Value, e = .returned (.tuple #[v, .bool true]) ∧ w'.ownsRow B 31 1 v outs.length (cellsS outs) ∧ Nw w w'

theorem isSteps_ok (n : Nat) (hn : n ≤ 2000) (w : World) :
    Calls Try.prog 65 #[.int .i64 (n : Int)] w fun e w' => e = .returned (.bool true) ∧ w = w' := by
  go_enter Try.func65, Try.ntmps65
  go_wp2
  go_ret
  exact ⟨by simp; omega, rfl⟩

theorem info_c64 : (Try.prog.info? 59).map (fun i => (i.zero, i.size, i.bytes)) = some (some (.complex .f32 0 0), 1, 8) := by kernel_rfl

/-- the outputs when k steps are done -/
def outsAt (ms : List M4) (x : Nat → Nat) (n k : Nat) : List Nat := (ringS ms x n).take k ++ List.replicate (n - k) 0
theorem outsAt_zero (ms : List M4) (x : Nat → Nat) (n : Nat) : outsAt ms x n 0 = List.replicate n 0 := by simp [outsAt]
theorem outsAt_full (ms : List M4) (x : Nat → Nat) (n : Nat) : outsAt ms x n n = ringS ms x n := by
  unfold outsAt; rw [List.take_of_length_le (by simp [ringS])]; simp
theorem outsAt_set (ms : List M4) (x : Nat → Nat) (n k : Nat) (h : k < n) : (cellsS (outsAt ms x n k)).set k (.float .f32 (outS (stAt ms x (k + 1)))) = cellsS (outsAt ms x n (k + 1)) := by
  have hk : k < (ringS ms x n).length := by simpa [ringS] using h
  have hv : (ringS ms x n)[k] = outS (stAt ms x (k + 1)) := by simp [ringS]
  unfold outsAt
  rw [List.take_succ_eq_append_getElem hk, hv, show n - k = (n - (k + 1)) + 1 from by omega, List.replicate_succ]
  simp only [cellsS, List.map_append, List.map_cons, List.map_nil, List.append_assoc, List.singleton_append]
  rw [List.set_append_right _ _ (by simp [ringS]; omega)]
  simp [ringS, show k - min k n = 0 from by omega]

theorem outs_cell (ms : List M4) (x : Nat → Nat) (n k : Nat) (h : k < n) : (cellsS (outsAt ms x n k))[k]? = some (.float .f32 0) := by
  unfold outsAt cellsS
  rw [List.getElem?_map, List.getElem?_append_right (by simp [ringS]; omega)]
  simp [ringS, List.getElem?_replicate]
  omega

theorem nw_grown {w wr w' w6 : World} {g : Nat} (h : Nw w wr) (hd : Nw wr w') (hg : w'.grownBy w6 (some g)) (hge : w.heap.size ≤ g) : Nw w w6 := by
  have h2 := h.trans hd
  exact ⟨hg.os.trans h2.os, hg.tape.trans h2.tape, hg.output.trans h2.output, Nat.le_trans h2.size hg.size, fun k hk hne => (hg.block k (Nat.lt_of_lt_of_le hk h2.size) (fun e => by cases e; omega)).trans (h2.block k hk hne)⟩

def RingI (B bb gs gu n q : Nat) (ms : List M4) (x : Nat → Nat) (bv : Value) (w : World) (i : Value) (wr : World) : Prop :=
  ∃ k : Nat, k ≤ n ∧ i = .int .i64 (k : Int) ∧ wr.ownsRow B 59 1 (.slice (some ⟨gs, 0, none⟩) q q) q (cellsC (stAt ms x k)) ∧
    wr.ownsRow B 31 1 (.slice (some ⟨gu, 0, none⟩) n n) n (cellsS (outsAt ms x n k)) ∧ Has1 wr bb bv ∧ Nw w wr

/-- .. and the row is no nil slice -/
def RingP2 (B : Nat) (outs : List Nat) (n : Nat) (w : World) (e : Ending) (w' : World) : Prop :=
  ∃ g : Nat, e = .returned (.tuple #[.slice (some ⟨g, 0, none⟩) n n, .bool true]) ∧ w'.ownsRow B 31 1 (.slice (some ⟨g, 0, none⟩) n n) n (cellsS outs) ∧ Nw w w'

set_option maxHeartbeats 3200000 in
theorem ringBody_some (ms : List M4) (hms : ∀ m ∈ ms, m.ok) (xs : List Nat) (n q bm bi : Nat) (v iv : Value) (hq : ms.length = q) (hq16 : q ≤ 16) (hxl : xs.length ≤ 1048576) (hn : n ≤ 2000) (w : World)
    (hm : w.ownsRow bm 61 2 v q (cellsM ms)) (hi : w.ownsRow bi 31 1 iv xs.length (cellsS xs)) (hok : RingOk ms (inputOf xs) n) :
    Calls Try.prog 53 #[.agg #[v], iv, .int .i64 (n : Int)] w (RingP2 w.heap.size (ringS ms (inputOf xs) n) n w) := by
  obtain ⟨va, vc, rfl⟩ := own_shape' hm
  obtain ⟨ia, ic, rfl⟩ := own_shape' hi
  obtain ⟨j0, hj, hjz0, hjz1, hjz2⟩ := info_parts info_c64
  obtain ⟨f0, hf, hfz0, hfz1, hfz2⟩ := info_parts info_f32
  have hvlt : ∀ g, (Value.slice va q vc).ownBlock = some g → g < w.heap.size := fun g hg => (hm.lt g hg).2
  have Hvlt := Lib.hid hvlt
  have Hm := Lib.hid hm
  have Hi := Lib.hid hi
  have Hok := Lib.hid hok
  have Hq := Lib.hid hq
  have Hbox := Lib.hid (Has1.new w 69 (.slice va q vc))
  have Hn0 := Lib.hid ((Nw.refl w).alloc (.cells #[.slice va q vc] 69 (0, 0)))
  have Hm0 := Lib.hid (own_nw hm Hn0.out)
  clear hm hi hok hq hvlt
  go_enter Try.func53, Try.ntmps53
  go_wp2_with fail
  refine (implIsBody_ok ms hms q bm _ Hq.out hq16 _ Hm0.out).mono ?_
  rintro e w1 ⟨rfl, n1⟩
  have Hb1 := Lib.hid (Hbox.out.nw n1)
  have Hn1 := Lib.hid (Hn0.out.trans n1)
  clear n1
  go_wp2_with fail
  refine (isSteps_ok n hn _).mono ?_
  rintro e w2 ⟨rfl, rfl⟩
  obtain ⟨b0, b1, b2⟩ := Hb1.out
  have hs1 := Hn1.out.size
  have hb1lt : w.heap.size < w1.heap.size := b0
  go_wp2_with (first
    | (at_make; refine wpList_make_full _ rfl _ _ 97 rfl w.heap.size 59 j0 (.complex .f32 0 0) 1 Try.underlying97 hj hjz0 hjz1 _ _ _ _ q rfl rfl rfl rfl (by rw [hjz2]; omega) (by unfold maxLen; omega) hs1 ?_))
  intro w3 hown3 hgrow3
  have Hs3 := Lib.hid (show w3.ownsRow w.heap.size 59 1 (.slice (some ⟨w1.heap.size, 0, none⟩) q q) q (cellsC (stAt ms (inputOf xs) 0)) from by
    rw [toList_madeCells_one] at hown3
    rw [show cellsC (stAt ms (inputOf xs) 0) = List.replicate q (Value.complex .f32 0 0) from by simp only [stAt, cellsC, List.map_map, Function.comp_def]; rw [List.map_const', Hq.out]]
    exact hown3)
  have Hb3 := Lib.hid (Hb1.out.nw hgrow3)
  have Hn3 := Lib.hid (Hn1.out.trans hgrow3)
  have hs3 := Hn3.out.size
  have hlt3 : w1.heap.size < w3.heap.size := (Hs3.out.lt _ rfl).2
  clear hown3 hgrow3 b0 b1 b2
  go_wp2_with (first
    | (at_make; refine wpList_make_full _ rfl _ _ 28 rfl w.heap.size 31 f0 (.float .f32 0) 1 Try.underlying28 hf hfz0 hfz1 _ _ _ _ n rfl rfl rfl rfl (by rw [hfz2]; omega) (by unfold maxLen; omega) hs3 ?_))
  intro w4 hown4 hgrow4
  have Ho4 := Lib.hid (show w4.ownsRow w.heap.size 31 1 (.slice (some ⟨w3.heap.size, 0, none⟩) n n) n (cellsS (outsAt ms (inputOf xs) n 0)) from by
    rw [toList_madeCells_one] at hown4
    rw [outsAt_zero]
    simpa [cellsS] using hown4)
  have Hs4 := Lib.hid (own_nw Hs3.out hgrow4)
  have Hb4 := Lib.hid (Hb3.out.nw hgrow4)
  have Hn4 := Lib.hid (Hn3.out.trans hgrow4)
  clear hown4 hgrow4
  go_wp2_with fail
  go_loopw [27] (fun i wr => RingI w.heap.size w.heap.size w1.heap.size w3.heap.size n q ms (inputOf xs) (.slice va q vc) w i wr) (fun i _ => n - (intOf i).toNat)
  case atStart => exact ⟨0, by omega, rfl, Hs4.out, Ho4.out, Hb4.out, Hn4.out⟩
  case round =>
    obtain ⟨k, hk, rfl, hst, hou, hbx, hnw⟩ := hrel
    have Hst := Lib.hid hst
    have Hou := Lib.hid hou
    have Hbx := Lib.hid hbx
    have Hnw := Lib.hid hnw
    clear hst hou hbx hnw
    by_cases hlt : k < n
    · obtain ⟨b0, b1, b2⟩ := Hbx.out
      go_upto_region 8 with fail
      have hg := Hnw.out.size
      have Hmr := Lib.hid (own_nw Hm.out Hnw.out)
      have Hir := Lib.hid (own_nw Hi.out Hnw.out)
      have hss := (Hst.out.lt _ rfl)
      have hoo := (Hou.out.lt _ rfl)
      have e1 := Hou.out.cellAt k (by omega)
      have e2 := Hou.out.frozenAt k
      rw [outs_cell ms (inputOf xs) n k hlt] at e1
      have hne : (Value.slice va q vc).ownBlock ≠ some w1.heap.size := fun e => by have := Hvlt.out _ e; omega
      have hne2 : some w3.heap.size ≠ some w1.heap.size := fun e => by simp at e; omega
      have Hk := Lib.hid (Hok.out k hlt)
      have Hqq := Lib.hid (stAt_len ms (inputOf xs) k)
      go_region_with (first
        | (go_at_call 60; refine (sampleAt_any xs _ bi k _ rfl (by omega) hxl _ Hir.out.drew).mono ?_; rintro e w5 ⟨rfl, rfl⟩)
        | (go_at_call 59; refine (stepStates_ok ms hms (stAt ms (inputOf xs) k) (inputOf xs k) q w1.heap.size w.heap.size bm _ Hq.out (Hqq.out.trans Hq.out) hq16 _ Hmr.out.drew Hst.out.drew hne Hk.out.1 Hk.out.2).mono ?_; rintro e w6 ⟨rfl, hst6, hgr6⟩; have e3 := (grown_cell hgr6 (p := ⟨w3.heap.size, k, none⟩) hoo.2 hne2).trans e1; have e4 := (grown_frozen hgr6 (p := ⟨w3.heap.size, k, none⟩) hoo.2 hne2).trans e2))
      all_goals
        have hou6 := (World.ownsRow.drew Hou.out).kept hgr6 (.inr hne2)
        have hset := hou6.stored k (.float .f32 (outS (stAt ms (inputOf xs) (k + 1))))
        have F1 := Lib.hid (hst6.kept hset.2 (.inr (fun e => hne2 e.symm)))
        have F2 := Lib.hid (outsAt_set ms (inputOf xs) n k hlt ▸ hset.1)
        have F3 := Lib.hid ((Has1.grown (w := wr.drew) Hbx.out hgr6 (fun e => by simp at e; omega)).set (p := ⟨w3.heap.size, k, none⟩) (by show w3.heap.size ≠ w.heap.size; omega) (.float .f32 (outS (stAt ms (inputOf xs) (k + 1)))))
        have F4 := Lib.hid ((nw_grown Hnw.out (w' := wr.drew) ⟨rfl, rfl, rfl, Nat.le_refl _, fun _ _ _ => rfl⟩ hgr6 hss.1).set (p := ⟨w3.heap.size, k, none⟩) hoo.1 (.float .f32 (outS (stAt ms (inputOf xs) (k + 1)))))
        clear hou6 hset hst6 hgr6 e1 e2 e3 e4 b1 b2
        go_wp2_with fail
        go_roundw
        case rel => exact ⟨k + 1, by omega, by rw [show ((k + 1 : Nat) : Int) = (k : Int) + 1 from by omega], F1.out, F2.out, F3.out, F4.out⟩
        case measure => simp only [intOf]; omega
    · obtain rfl : k = n := by omega
      go_wp2_with fail
      go_ret2
      refine ⟨_, rfl, ?_, Hnw.out⟩
      have := Hou.out
      rw [outsAt_full] at this
      simpa [ringS] using this

theorem ringBody_ok (ms : List M4) (hms : ∀ m ∈ ms, m.ok) (xs : List Nat) (n q bm bi : Nat) (v iv : Value) (hq : ms.length = q) (hq16 : q ≤ 16) (hxl : xs.length ≤ 1048576) (hn : n ≤ 2000) (w : World)
    (hm : w.ownsRow bm 61 2 v q (cellsM ms)) (hi : w.ownsRow bi 31 1 iv xs.length (cellsS xs)) (hok : RingOk ms (inputOf xs) n) :
    Calls Try.prog 53 #[.agg #[v], iv, .int .i64 (n : Int)] w (RingP w.heap.size (ringS ms (inputOf xs) n) w) :=
  (ringBody_some ms hms xs n q bm bi v iv hq hq16 hxl hn w hm hi hok).mono fun _ _ ⟨g, h1, h2, h3⟩ => ⟨_, h1, by simpa [ringS] using h2, h3⟩

end Go.Proofs.Ytlhhcchncobmhaa

/- One step of a mode in double precision: its bits, how near it is to the exact step, and the walk of stepDouble; no NaN and no infinity is met.
   Conditions: those that each statement names. -/
namespace Go.Proofs.Ytlhhcchncobmhaa
set_option linter.unusedSimpArgs false
set_option linter.unusedVariables false
open Go Go.RowKit

def mulDre (a b c d : Nat) : Nat := opB .sub .f64 (opB .mul .f64 a c) (opB .mul .f64 b d)
def mulDim (a b c d : Nat) : Nat := opB .add .f64 (opB .mul .f64 a d) (opB .mul .f64 b c)
def stepD (m : M4) (s : Nat × Nat) (x : Nat) : Nat × Nat :=
  (opB .add .f64 (mulDre s.1 s.2 (wid m.pr) (wid m.pi)) (opB .mul .f64 (wid m.gr) x), opB .add .f64 (mulDim s.1 s.2 (wid m.pr) (wid m.pi)) (opB .mul .f64 (wid m.gi) x))

structure StepDOk (m : M4) (s : Nat × Nat) (x : Nat) : Prop where
  a1 : Calm .mul .f64 s.1 (wid m.pr)
  a2 : Calm .mul .f64 s.2 (wid m.pi)
  a3 : Calm .sub .f64 (opB .mul .f64 s.1 (wid m.pr)) (opB .mul .f64 s.2 (wid m.pi))
  a4 : Calm .mul .f64 s.1 (wid m.pi)
  a5 : Calm .mul .f64 s.2 (wid m.pr)
  a6 : Calm .add .f64 (opB .mul .f64 s.1 (wid m.pi)) (opB .mul .f64 s.2 (wid m.pr))
  c1 : Calm .mul .f64 (wid m.gr) x
  c2 : Calm .mul .f64 (wid m.gi) x
  c3 : Calm .add .f64 (mulDre s.1 s.2 (wid m.pr) (wid m.pi)) (opB .mul .f64 (wid m.gr) x)
  c4 : Calm .add .f64 (mulDim s.1 s.2 (wid m.pr) (wid m.pi)) (opB .mul .f64 (wid m.gi) x)

/-- the sums of the errors of one part, in plain numbers -/
theorem stepD_sum (D R H u v et es : Rat) (hD : 0 ≤ D) (hR : 0 ≤ R) (hH : 0 ≤ H) (u0 : 0 < u) (huv : u ≤ v / 536870912) (ve : v * 16777216 = 1) (e0 : 0 < et) (ee : et ≤ es / 1024) :
    0 ≤ R * u ∧ 0 ≤ D * u ∧ 0 ≤ H * u ∧ 0 ≤ et * u ∧ R * u ≤ R / 1048576 ∧ D * u ≤ D / 1048576 ∧ H * u ≤ H / 1048576 ∧ et * u ≤ et ∧ 
    (D + 2 * (2 * R * u + et)) * u + et + 2 * (2 * R * u + et) ≤ D / 1048576 + R / 65536 + es ∧
    (D + ((D + 2 * (2 * R * u + et)) * u + et + 2 * (2 * R * u + et)) + (H + (H * u + et))) * u + et + ((D + 2 * (2 * R * u + et)) * u + et + 2 * (2 * R * u + et)) + (H * u + et) ≤ (2 * D + 2 * H) * v + (D + R + H) * v / 1024 + 6 * es := by
  have hv : v = 1 / 16777216 := by grind
  subst hv
  have u1 : u ≤ 1 / 1048576 := by grind
  have k1 := Rat.mul_le_mul_of_nonneg_left huv hR
  have k2 := Rat.mul_nonneg hR (Rat.le_of_lt u0)
  have d1 := Rat.mul_le_mul_of_nonneg_left huv hD
  have d2 := Rat.mul_nonneg hD (Rat.le_of_lt u0)
  have h1 := Rat.mul_le_mul_of_nonneg_left huv hH
  have h2 := Rat.mul_nonneg hH (Rat.le_of_lt u0)
  have t1 := Rat.mul_le_mul_of_nonneg_left u1 (Rat.le_of_lt e0)
  have t2 := Rat.mul_nonneg (Rat.le_of_lt e0) (Rat.le_of_lt u0)
  have k3 := Rat.mul_le_mul_of_nonneg_left u1 k2
  have k4 := Rat.mul_nonneg k2 (Rat.le_of_lt u0)
  have k5 := Rat.mul_le_mul_of_nonneg_left u1 k4
  have d3 := Rat.mul_le_mul_of_nonneg_left u1 d2
  have d4 := Rat.mul_nonneg d2 (Rat.le_of_lt u0)
  have h3 := Rat.mul_le_mul_of_nonneg_left u1 h2
  have t3 := Rat.mul_le_mul_of_nonneg_left u1 t2
  refine ⟨k2, d2, h2, t2, by grind, by grind, by grind, by grind, by grind, by grind⟩

theorem partD_step (o : BinOp) (a c b d g x : Nat) (ha : Flo.Nm a) (hc : Flo.Nm c) (hb : Flo.Nm b) (hd : Flo.Nm d) (hg : Flo.Nm g) (hx : Flo.Nm x) (e D R H : Rat) (ho : (o = .sub ∧ e = Flo.W a * Flo.W c - Flo.W b * Flo.W d) ∨ (o = .add ∧ e = Flo.W a * Flo.W c + Flo.W b * Flo.W d))
    (h1 : Flo.Ab (Flo.W a * Flo.W c) (2 * R)) (h2 : Flo.Ab (Flo.W b * Flo.W d) (2 * R)) (he : Flo.Ab e D) (hH : Flo.Ab (Flo.W g * Flo.W x) H) (hRt : R ≤ Flo.pw 110) (hDt : D ≤ Flo.pw 112) (hHt : H ≤ Flo.pw 112) :
    Calm .mul .f64 a c ∧ Calm .mul .f64 b d ∧ Calm o .f64 (opB .mul .f64 a c) (opB .mul .f64 b d) ∧ Calm .mul .f64 g x ∧ Calm .add .f64 (opB o .f64 (opB .mul .f64 a c) (opB .mul .f64 b d)) (opB .mul .f64 g x) ∧
      Flo.Nm (opB .add .f64 (opB o .f64 (opB .mul .f64 a c) (opB .mul .f64 b d)) (opB .mul .f64 g x)) ∧
      Flo.Ab (Flo.W (opB .add .f64 (opB o .f64 (opB .mul .f64 a c) (opB .mul .f64 b d)) (opB .mul .f64 g x)) - (e + Flo.W g * Flo.W x)) ((2 * D + 2 * H) * Flo.v + (D + R + H) * Flo.v / 1024 + 6 * Flo.es) := by
  have hR0 : 0 ≤ R := by have := h1.nonneg; grind
  obtain ⟨s1, s2, s3, s4, s5, s6, s7, s8, s9, s10⟩ := stepD_sum D R H Flo.u Flo.v Flo.et Flo.es he.nonneg hR0 hH.nonneg Flo.u_pos uv Flo.v_eq Flo.et_pos small'.ee
  have l1 : Flo.pw 112 = 4 * Flo.pw 110 := by rw [show (112 : Int) = 2 + 110 from rfl, Flo.pw_add, show Flo.pw 2 = 4 from Flo.pw_nat 2]
  have l2 : Flo.pw 120 = 256 * Flo.pw 112 := by rw [show (120 : Int) = 8 + 112 from rfl, Flo.pw_add, show Flo.pw 8 = 256 from Flo.pw_nat 8]
  have l3 := Flo.pw_lt (a := 120) (b := 1023) (by omega)
  have l4 : 1 ≤ Flo.pw 110 := by rw [← Flo.pw_zero]; exact Flo.pw_le (by omega)
  have es1 := small'.es1
  have ee := small'.ee
  have et0 := Flo.et_pos
  obtain ⟨p, p1, p2, p3⟩ := Flo.d_mul a c ha hc (2 * R) h1 (by grind)
  obtain ⟨q, q1, q2, q3⟩ := Flo.d_mul b d hb hd (2 * R) h2 (by grind)
  obtain ⟨c1, b1⟩ := Calm.of p1
  obtain ⟨c2, b2⟩ := Calm.of q1
  obtain ⟨r, r1, r2, r3⟩ : ∃ r, floatBits o .f64 p q = some r ∧ Flo.Nm r ∧ Flo.Ab (Flo.W r - e) ((D + 2 * (2 * R * Flo.u + Flo.et)) * Flo.u + Flo.et + 2 * (2 * R * Flo.u + Flo.et)) := by
    rcases ho with ⟨rfl, rfl⟩ | ⟨rfl, rfl⟩
    · have hpq : Flo.Ab (Flo.W p - Flo.W q) (D + 2 * (2 * R * Flo.u + Flo.et)) := ((he.add (p3.sub q3)).eq (by grind)).mono (by grind)
      obtain ⟨r, r1, r2, r3⟩ := Flo.d_sub p q p2 q2 _ hpq (by grind)
      exact ⟨r, r1, r2, ((r3.add (p3.sub q3)).eq (by grind)).mono (by grind)⟩
    · have hpq : Flo.Ab (Flo.W p + Flo.W q) (D + 2 * (2 * R * Flo.u + Flo.et)) := ((he.add (p3.add q3)).eq (by grind)).mono (by grind)
      obtain ⟨r, r1, r2, r3⟩ := Flo.d_add p q p2 q2 _ hpq (by grind)
      exact ⟨r, r1, r2, ((r3.add (p3.add q3)).eq (by grind)).mono (by grind)⟩
  obtain ⟨c3, b3⟩ := Calm.of r1
  obtain ⟨y, y1, y2, y3⟩ := Flo.d_mul g x hg hx H hH (by grind)
  obtain ⟨c4, b4⟩ := Calm.of y1
  have hs : Flo.Ab (Flo.W r + Flo.W y) (D + ((D + 2 * (2 * R * Flo.u + Flo.et)) * Flo.u + Flo.et + 2 * (2 * R * Flo.u + Flo.et)) + (H + (H * Flo.u + Flo.et))) := ((he.add r3).add (hH.add y3)).eq (by grind)
  obtain ⟨z, z1, z2, z3⟩ := Flo.d_add r y r2 y2 _ hs (by grind)
  obtain ⟨c5, b5⟩ := Calm.of z1
  rw [← b1, ← b2] at c3 b3
  rw [← b3, ← b4] at c5 b5
  refine ⟨c1, c2, c3, c4, c5, by rw [b5]; exact z2, ?_⟩
  rw [b5]
  exact (((z3.add r3).add y3).eq (by grind)).mono s10

/-- ONE STEP OF A VALID MODE, in double precision. -/
theorem stepD_ok (m : M4) (hm : m.ok) (s : Nat × Nat) (x : Nat) (h1 : Flo.Nm s.1) (h2 : Flo.Nm s.2) (hx : Flo.Nm x) (R D H : Rat) (r1 : Flo.Ab (Flo.W s.1) R) (r2 : Flo.Ab (Flo.W s.2) R)
    (d1 : Flo.Ab (Flo.W s.1 * S m.pr - Flo.W s.2 * S m.pi) D) (d2 : Flo.Ab (Flo.W s.1 * S m.pi + Flo.W s.2 * S m.pr) D) (g1 : Flo.Ab (S m.gr * Flo.W x) H) (g2 : Flo.Ab (S m.gi * Flo.W x) H) (hRt : R ≤ Flo.pw 110) (hDt : D ≤ Flo.pw 112) (hHt : H ≤ Flo.pw 112) :
    StepDOk m s x ∧ Flo.Nm (stepD m s x).1 ∧ Flo.Nm (stepD m s x).2 ∧
      Flo.Ab (Flo.W (stepD m s x).1 - (Flo.W s.1 * S m.pr - Flo.W s.2 * S m.pi + S m.gr * Flo.W x)) ((2 * D + 2 * H) * Flo.v + (D + R + H) * Flo.v / 1024 + 6 * Flo.es) ∧
      Flo.Ab (Flo.W (stepD m s x).2 - (Flo.W s.1 * S m.pi + Flo.W s.2 * S m.pr + S m.gi * Flo.W x)) ((2 * D + 2 * H) * Flo.v + (D + R + H) * Flo.v / 1024 + 6 * Flo.es) := by
  obtain ⟨n1, n2, n3, n4⟩ := hm.nums
  obtain ⟨q1, q2⟩ := hm.pole
  obtain ⟨m1, v1⟩ := wid_num n1
  obtain ⟨m2, v2⟩ := wid_num n2
  obtain ⟨m3, v3⟩ := wid_num n3
  obtain ⟨m4, v4⟩ := wid_num n4
  rw [← v1] at d1 d2 q1 ⊢
  rw [← v2] at d1 d2 q2 ⊢
  rw [← v3] at g1 ⊢
  rw [← v4] at g2 ⊢
  have k1 : Flo.Ab (Flo.W s.1 * Flo.W (wid m.pr)) (2 * R) := (r1.mul q1).mono (by grind)
  have k2 : Flo.Ab (Flo.W s.2 * Flo.W (wid m.pi)) (2 * R) := (r2.mul q2).mono (by grind)
  have k3 : Flo.Ab (Flo.W s.1 * Flo.W (wid m.pi)) (2 * R) := (r1.mul q2).mono (by grind)
  have k4 : Flo.Ab (Flo.W s.2 * Flo.W (wid m.pr)) (2 * R) := (r2.mul q1).mono (by grind)
  obtain ⟨a1, a2, a3, a4, a5, a6, a7⟩ := partD_step .sub s.1 (wid m.pr) s.2 (wid m.pi) (wid m.gr) x h1 m1 h2 m2 m3 hx _ D R H (.inl ⟨rfl, rfl⟩) k1 k2 d1 g1 hRt hDt hHt
  obtain ⟨b1, b2, b3, b4, b5, b6, b7⟩ := partD_step .add s.1 (wid m.pi) s.2 (wid m.pr) (wid m.gi) x h1 m2 h2 m1 m4 hx _ D R H (.inr ⟨rfl, rfl⟩) k3 k4 d2 g2 hRt hDt hHt
  exact ⟨⟨a1, a2, a3, b1, b2, b3, a4, b4, a5, b5⟩, a6, b6, a7, b7⟩

/-! ### the walks -/
theorem implScaleD_ok (a b x : Nat) (w : World) (h1 : Calm .mul .f64 a x) (h2 : Calm .mul .f64 b x) :
    Calls Try.prog 114 #[.complex .f64 a b, .float .f64 x] w fun e w' => e = .returned (.complex .f64 (opB .mul .f64 a x) (opB .mul .f64 b x)) ∧ w = w' := by
  have r1 := h1.res
  have r2 := h2.res
  have q1 := h1.fdr
  have q2 := h2.fdr
  clear h1 h2
  go_enter Try.func114, Try.ntmps114
  go_wp2
  all_goals (go_ret; exact ⟨rfl, rfl⟩)

theorem stepDouble_ok (m : M4) (s : Nat × Nat) (x : Nat) (w : World) (h : StepDOk m s x) :
    Calls Try.prog 87 #[.complex .f64 (wid m.pr) (wid m.pi), .complex .f64 (wid m.gr) (wid m.gi), .complex .f64 s.1 s.2, .float .f64 x] w fun e w' => e = .returned (.complex .f64 (stepD m s x).1 (stepD m s x).2) ∧ w = w' := by
  have r3 := h.c3.res
  have r4 := h.c4.res
  have q3 := h.c3.fdr
  have q4 := h.c4.fdr
  have Hh := Lib.hid h
  clear h
  go_enter Try.func87, Try.ntmps87
  go_wp2_with fail
  refine (implMul_calm _ _ _ _ _ Hh.out.a1 Hh.out.a2 Hh.out.a3 Hh.out.a4 Hh.out.a5 Hh.out.a6).mono ?_
  rintro e w' ⟨rfl, rfl⟩
  rw [show opB .sub .f64 (opB .mul .f64 s.1 (wid m.pr)) (opB .mul .f64 s.2 (wid m.pi)) = mulDre s.1 s.2 (wid m.pr) (wid m.pi) from rfl, show opB .add .f64 (opB .mul .f64 s.1 (wid m.pi)) (opB .mul .f64 s.2 (wid m.pr)) = mulDim s.1 s.2 (wid m.pr) (wid m.pi) from rfl]
  go_wp2_with fail
  refine (implScaleD_ok _ _ _ _ Hh.out.c1 Hh.out.c2).mono ?_
  rintro e w' ⟨rfl, rfl⟩
  go_wp2
  go_ret
  exact ⟨rfl, rfl⟩

end Go.Proofs.Ytlhhcchncobmhaa

/- The walk of RingDouble, where no NaN and no infinity is met: bit for bit.
   Conditions: those that each statement names. -/
namespace Go.Proofs.Ytlhhcchncobmhaa
set_option linter.unusedSimpArgs false
set_option linter.unusedVariables false
open Go Go.RowKit

def stepAllD (ms : List M4) (ss : List (Nat × Nat)) (x : Nat) : List (Nat × Nat) := List.zipWith (fun m s => stepD m s x) ms ss
def outD (ss : List (Nat × Nat)) : Nat := ss.foldl (fun y s => opB .add .f64 y s.1) 0
def cellsD (ss : List (Nat × Nat)) : List Value := ss.map fun s => .complex .f64 s.1 s.2
def cellsF (xs : List Nat) : List Value := xs.map (Value.float .f64)
def SumDOk (ss : List (Nat × Nat)) : Prop := ∀ (k : Nat) s, ss[k]? = some s → Calm .add .f64 (outD (ss.take k)) s.1
theorem outD_take (ss : List (Nat × Nat)) (k : Nat) (s : Nat × Nat) (h : ss[k]? = some s) : outD (ss.take (k + 1)) = opB .add .f64 (outD (ss.take k)) s.1 := by
  obtain ⟨hk, he⟩ := List.getElem?_eq_some_iff.1 h
  rw [List.take_succ_eq_append_getElem hk, he]
  simp [outD, List.foldl_append]
def mixedD (ms : List M4) (ss : List (Nat × Nat)) (x k : Nat) : List (Nat × Nat) := (stepAllD ms ss x).take k ++ ss.drop k
theorem mixedD_at (ms : List M4) (ss : List (Nat × Nat)) (x k : Nat) (s : Nat × Nat) (hl : ms.length = ss.length) (h : ss[k]? = some s) : (cellsD (mixedD ms ss x k))[k]? = some (.complex .f64 s.1 s.2) := by
  have hk := (List.getElem?_eq_some_iff.1 h).1
  have hlen : ((stepAllD ms ss x).take k).length = k := by simp [stepAllD]; omega
  unfold mixedD cellsD
  rw [List.getElem?_map, List.getElem?_append_right (by omega), hlen, Nat.sub_self, List.getElem?_drop, Nat.add_zero, h]
  rfl
theorem stepAllD_at (ms : List M4) (ss : List (Nat × Nat)) (x k : Nat) (m : M4) (s : Nat × Nat) (hm : ms[k]? = some m) (hs : ss[k]? = some s) : (stepAllD ms ss x)[k]? = some (stepD m s x) := by
  unfold stepAllD; rw [List.getElem?_zipWith, hm, hs]
theorem mixedD_step (ms : List M4) (ss : List (Nat × Nat)) (x k : Nat) (m : M4) (s : Nat × Nat) (hm : ms[k]? = some m) (hs : ss[k]? = some s) :
    (cellsD (mixedD ms ss x k)).set k (.complex .f64 (stepD m s x).1 (stepD m s x).2) = cellsD (mixedD ms ss x (k + 1)) := by
  obtain ⟨hkm, -⟩ := List.getElem?_eq_some_iff.1 hm
  obtain ⟨hks, hse⟩ := List.getElem?_eq_some_iff.1 hs
  have hat := stepAllD_at ms ss x k m s hm hs
  obtain ⟨hka, hae⟩ := List.getElem?_eq_some_iff.1 hat
  unfold mixedD
  rw [List.take_succ_eq_append_getElem hka, hae, List.drop_eq_getElem_cons hks, hse]
  simp only [cellsD, List.map_append, List.map_cons, List.map_nil, List.append_assoc, List.singleton_append]
  rw [List.set_append_right _ _ (by simp [stepAllD]; omega)]
  simp [stepAllD, show k - min k (min ms.length ss.length) = 0 from by omega]
theorem mixedD_after (ms : List M4) (ss : List (Nat × Nat)) (x k : Nat) (m : M4) (s : Nat × Nat) (hm : ms[k]? = some m) (hs : ss[k]? = some s) :
    (cellsD (mixedD ms ss x (k + 1)))[k]? = some (.complex .f64 (stepD m s x).1 (stepD m s x).2) := by
  obtain ⟨hkm, -⟩ := List.getElem?_eq_some_iff.1 hm
  obtain ⟨hks, hse⟩ := List.getElem?_eq_some_iff.1 hs
  rw [← mixedD_step ms ss x k m s hm hs, List.getElem?_set_self]
  simp [cellsD, mixedD, stepAllD]; omega
theorem mixedD_full (ms : List M4) (ss : List (Nat × Nat)) (x : Nat) (hl : ms.length = ss.length) : mixedD ms ss x ms.length = stepAllD ms ss x := by
  unfold mixedD
  rw [List.take_of_length_le (by simp [stepAllD]; omega), List.drop_of_length_le (by omega), List.append_nil]

def stDAt (ms : List M4) (x : Nat → Nat) : Nat → List (Nat × Nat)
  | 0 => ms.map fun _ => (0, 0)
  | i + 1 => stepAllD ms (stDAt ms x i) (wid (x i))
theorem stDAt_len (ms : List M4) (x : Nat → Nat) : ∀ i, (stDAt ms x i).length = ms.length
  | 0 => by simp [stDAt]
  | i + 1 => by simp [stDAt, stepAllD, stDAt_len ms x i]
def RingDOk (ms : List M4) (x : Nat → Nat) (n : Nat) : Prop :=
  ∀ i, i < n → Sm (x i) ∧ (∀ (k : Nat) m s, ms[k]? = some m → (stDAt ms x i)[k]? = some s → StepDOk m s (wid (x i))) ∧ SumDOk (stDAt ms x (i + 1))
def ringD (ms : List M4) (x : Nat → Nat) (n : Nat) : List Nat := (List.range n).map fun i => outD (stDAt ms x (i + 1))

/-- the outputs when k steps are done, and the next one is y so far -/
def outsDAt (ms : List M4) (x : Nat → Nat) (n k y : Nat) : List Nat := ((ringD ms x n).take k ++ List.replicate (n - k) 0).set k y
theorem outsD_zero (ms : List M4) (x : Nat → Nat) (n : Nat) : cellsF (outsDAt ms x n 0 0) = List.replicate n (.float .f64 0) := by
  unfold outsDAt cellsF
  cases n <;> simp [List.replicate_succ]
theorem outsD_cell (ms : List M4) (x : Nat → Nat) (n k y : Nat) (h : k < n) : (cellsF (outsDAt ms x n k y))[k]? = some (.float .f64 y) := by
  unfold outsDAt cellsF
  rw [List.getElem?_map, List.getElem?_set_self (by simp [ringD]; omega)]; rfl
theorem outsD_set (ms : List M4) (x : Nat → Nat) (n k y z : Nat) : (cellsF (outsDAt ms x n k y)).set k (.float .f64 z) = cellsF (outsDAt ms x n k z) := by
  unfold outsDAt cellsF
  rw [List.map_set, List.set_set, List.map_set]
theorem outsD_next (ms : List M4) (x : Nat → Nat) (n k : Nat) (h : k < n) : outsDAt ms x n k (outD (stDAt ms x (k + 1))) = outsDAt ms x n (k + 1) 0 := by
  have hk : k < (ringD ms x n).length := by simpa [ringD] using h
  have hv : (ringD ms x n)[k] = outD (stDAt ms x (k + 1)) := by simp [ringD]
  unfold outsDAt
  rw [List.take_succ_eq_append_getElem hk, hv, show n - k = (n - (k + 1)) + 1 from by omega, List.replicate_succ]
  rw [List.set_append_right _ _ (by simp [ringD]; omega)]
  have e : k - ((ringD ms x n).take k).length = 0 := by simp [ringD]; omega
  rw [e, List.set_cons_zero, List.append_assoc, List.singleton_append]
  rw [List.set_append_right _ _ (by simp [ringD]; omega)]
  have e2 : k + 1 - ((ringD ms x n).take k).length = 1 := by simp [ringD]; omega
  rw [e2, List.set_cons_succ]
  congr 2
  cases hq : n - (k + 1) <;> simp [List.replicate_succ]
theorem outsD_full (ms : List M4) (x : Nat → Nat) (n : Nat) : outsDAt ms x n n 0 = ringD ms x n := by
  unfold outsDAt; rw [List.take_of_length_le (by simp [ringD]), Nat.sub_self, List.replicate_zero, List.append_nil, List.set_eq_of_length_le (by simp [ringD])]

theorem info_c128 : (Try.prog.info? 41).map (fun i => (i.zero, i.size, i.bytes)) = some (some (.complex .f64 0 0), 1, 16) := by kernel_rfl
theorem info_f64 : (Try.prog.info? 49).map (fun i => (i.zero, i.size, i.bytes)) = some (some (.float .f64 0), 1, 8) := by kernel_rfl

/-- what holds at the head of a round: k steps are done; the states of the next one are done for the first j modes -/
def RingDI (B bb gs gu n q : Nat) (ms : List M4) (x : Nat → Nat) (bv : Value) (w : World) (k j y : Nat) (wr : World) : Prop :=
  wr.ownsRow B 41 1 (.slice (some ⟨gs, 0, none⟩) q q) q (cellsD (mixedD ms (stDAt ms x k) (wid (x k)) j)) ∧
    wr.ownsRow B 49 1 (.slice (some ⟨gu, 0, none⟩) n n) n (cellsF (outsDAt ms x n k y)) ∧ Has1 wr bb bv ∧ Nw w wr

def RingDP (B : Nat) (outs : List Nat) (w : World) (e : Ending) (w' : World) : Prop :=
  ∃ v : Value, e = .returned (.tuple #[v, .bool true]) ∧ w'.ownsRow B 49 1 v outs.length (cellsF outs) ∧ Nw w w'

def OutI (B bb gs gu n q : Nat) (ms : List M4) (x : Nat → Nat) (bv : Value) (w : World) (i : Value) (wr : World) : Prop :=
  ∃ k : Nat, k ≤ n ∧ i = .int .i64 (k : Int) ∧ RingDI B bb gs gu n q ms x bv w k 0 0 wr
def InI (B bb gs gu n q : Nat) (ms : List M4) (x : Nat → Nat) (bv : Value) (w : World) (k : Nat) (i : Value) (wr : World) : Prop :=
  ∃ j : Nat, j ≤ q ∧ i = .int .i64 (j : Int) ∧ RingDI B bb gs gu n q ms x bv w k j (outD ((stepAllD ms (stDAt ms x k) (wid (x k))).take j)) wr

set_option maxRecDepth 100000 in
set_option maxHeartbeats 12800000 in
theorem ringDouble_ok (ms : List M4) (hms : ∀ m ∈ ms, m.ok) (xs : List Nat) (n q bm bi : Nat) (v iv : Value) (hq : ms.length = q) (hq16 : q ≤ 16) (hxl : xs.length ≤ 1048576) (hn : n ≤ 2000) (w : World)
    (hm : w.ownsRow bm 61 2 v q (cellsM ms)) (hi : w.ownsRow bi 31 1 iv xs.length (cellsS xs)) (hok : RingDOk ms (inputOf xs) n) :
    Calls Try.prog 44 #[.agg #[v], iv, .int .i64 (n : Int)] w (RingDP w.heap.size (ringD ms (inputOf xs) n) w) := by
  obtain ⟨va, vc, rfl⟩ := own_shape' hm
  obtain ⟨ia, ic, rfl⟩ := own_shape' hi
  obtain ⟨j0, hj, hjz0, hjz1, hjz2⟩ := info_parts info_c128
  obtain ⟨f0, hf, hfz0, hfz1, hfz2⟩ := info_parts info_f64
  have hvlt : ∀ g, (Value.slice va q vc).ownBlock = some g → g < w.heap.size := fun g hg => (hm.lt g hg).2
  have Hvlt := Lib.hid hvlt
  have Hm := Lib.hid hm
  have Hi := Lib.hid hi
  have Hok := Lib.hid hok
  have Hq := Lib.hid hq
  have Hbox := Lib.hid (Has1.new w 69 (.slice va q vc))
  have Hn0 := Lib.hid ((Nw.refl w).alloc (.cells #[.slice va q vc] 69 (0, 0)))
  have Hm0 := Lib.hid (own_nw hm Hn0.out)
  clear hm hi hok hq hvlt
  go_enter Try.func44, Try.ntmps44
  go_wp2_with fail
  refine (implIsBody_ok ms hms q bm _ Hq.out hq16 _ Hm0.out).mono ?_
  rintro e w1 ⟨rfl, n1⟩
  have Hb1 := Lib.hid (Hbox.out.nw n1)
  have Hn1 := Lib.hid (Hn0.out.trans n1)
  clear n1
  go_wp2_with fail
  refine (isSteps_ok n hn _).mono ?_
  rintro e w2 ⟨rfl, rfl⟩
  obtain ⟨b0, b1, b2⟩ := Hb1.out
  have hs1 := Hn1.out.size
  have hb1lt : w.heap.size < w1.heap.size := b0
  go_wp2_with (first
    | (at_make; refine wpList_make_full _ rfl _ _ 43 rfl w.heap.size 41 j0 (.complex .f64 0 0) 1 Try.underlying43 hj hjz0 hjz1 _ _ _ _ q rfl rfl rfl rfl (by rw [hjz2]; omega) (by unfold maxLen; omega) hs1 ?_))
  intro w3 hown3 hgrow3
  have Hs3 := Lib.hid (show w3.ownsRow w.heap.size 41 1 (.slice (some ⟨w1.heap.size, 0, none⟩) q q) q (cellsD (mixedD ms (stDAt ms (inputOf xs) 0) (wid (inputOf xs 0)) 0)) from by
    rw [toList_madeCells_one] at hown3
    rw [show cellsD (mixedD ms (stDAt ms (inputOf xs) 0) (wid (inputOf xs 0)) 0) = List.replicate q (Value.complex .f64 0 0) from by simp only [mixedD, List.take_zero, List.nil_append, List.drop_zero, stDAt, cellsD, List.map_map, Function.comp_def]; rw [List.map_const', Hq.out]]
    exact hown3)
  have Hb3 := Lib.hid (Hb1.out.nw hgrow3)
  have Hn3 := Lib.hid (Hn1.out.trans hgrow3)
  have hs3 := Hn3.out.size
  have hlt3 : w1.heap.size < w3.heap.size := (Hs3.out.lt _ rfl).2
  clear hown3 hgrow3 b0 b1 b2
  go_wp2_with (first
    | (at_make; refine wpList_make_full _ rfl _ _ 77 rfl w.heap.size 49 f0 (.float .f64 0) 1 Try.underlying77 hf hfz0 hfz1 _ _ _ _ n rfl rfl rfl rfl (by rw [hfz2]; omega) (by unfold maxLen; omega) hs3 ?_))
  intro w4 hown4 hgrow4
  have Ho4 := Lib.hid (show w4.ownsRow w.heap.size 49 1 (.slice (some ⟨w3.heap.size, 0, none⟩) n n) n (cellsF (outsDAt ms (inputOf xs) n 0 0)) from by
    rw [toList_madeCells_one] at hown4
    rw [outsD_zero]
    exact hown4)
  have Hs4 := Lib.hid (own_nw Hs3.out hgrow4)
  have Hb4 := Lib.hid (Hb3.out.nw hgrow4)
  have Hn4 := Lib.hid (Hn3.out.trans hgrow4)
  clear hown4 hgrow4
  go_wp2_with fail
  go_loopw [30] (fun i wr => OutI w.heap.size w.heap.size w1.heap.size w3.heap.size n q ms (inputOf xs) (.slice va q vc) w i wr) (fun i _ => n - (intOf i).toNat)
  case atStart => exact ⟨0, by omega, rfl, Hs4.out, Ho4.out, Hb4.out, Hn4.out⟩
  case round =>
    obtain ⟨k, hk, rfl, hst, hou, hbx, hnw⟩ := hrel
    have Hst := Lib.hid hst
    have Hou := Lib.hid hou
    have Hbx := Lib.hid hbx
    have Hnw := Lib.hid hnw
    clear hst hou hbx hnw
    by_cases hlt : k < n
    · obtain ⟨wo, hwo⟩ : ∃ wo, wo = wr := ⟨_, rfl⟩
      subst hwo
      obtain ⟨b0, b1, b2⟩ := Hbx.out
      have Hk := Lib.hid (Hok.out k hlt)
      have hx := Hk.out.1
      have a1 := fcv_up hx
      have a2 := fcd_up hx
      have Hir := Lib.hid (own_nw Hi.out Hnw.out)
      clear hx
      go_wp2_with fail
      refine (sampleAt_any xs _ bi k _ rfl (by omega) hxl _ Hir.out).mono ?_
      rintro e w5 ⟨rfl, rfl⟩
      go_wp2_with fail
      go_loopw [40] (fun i wr => InI w.heap.size w.heap.size w1.heap.size w3.heap.size n q ms (inputOf xs) (.slice va q vc) w k i wr) (fun i _ => q - (intOf i).toNat)
      case atStart => exact ⟨0, by omega, rfl, Hst.out, Hou.out, Hbx.out, Hnw.out⟩
      case round =>
        obtain ⟨j, hj, rfl, hst, hou, hbx, hnw⟩ := hrel
        have Jst := Lib.hid hst
        have Jou := Lib.hid hou
        have Jbx := Lib.hid hbx
        have Jnw := Lib.hid hnw
        clear hst hou hbx hnw b1 b2
        by_cases hjt : j < q
        · obtain ⟨m, hmk⟩ : ∃ m, ms[j]? = some m := ⟨ms[j]'(by rw [Hq.out]; exact hjt), List.getElem?_eq_getElem _⟩
          obtain ⟨s, hsk⟩ : ∃ s, (stDAt ms (inputOf xs) k)[j]? = some s := ⟨(stDAt ms (inputOf xs) k)[j]'(by rw [stDAt_len, Hq.out]; exact hjt), List.getElem?_eq_getElem _⟩
          have Hmr := Lib.hid (own_nw Hm.out Jnw.out)
          obtain ⟨g, cap, hv, hcap, hmax, hgs, e1, e2⟩ := own_mode Hmr.out hmk Hq.out.symm
          cases hv
          have Hmk := Lib.hid hmk
          have Hsk := Lib.hid hsk
          have Hmo := Lib.hid (hms m (List.mem_of_getElem? hmk))
          clear hmk hsk
          unfold maxLen at hmax
          go_upto_region 12 with fail
          have K1 := Lib.hid (HasMode.new wr 61 m.pr m.pi m.gr m.gi)
          have K2 := Lib.hid (Jst.out.alloc (.cells #[.complex .f32 m.pr m.pi, .complex .f32 m.gr m.gi] 61 (0, 0)))
          have K3 := Lib.hid (Jou.out.alloc (.cells #[.complex .f32 m.pr m.pi, .complex .f32 m.gr m.gi] 61 (0, 0)))
          have K4 := Lib.hid (Jbx.out.alloc (.cells #[.complex .f32 m.pr m.pi, .complex .f32 m.gr m.gi] 61 (0, 0)))
          have K5 := Lib.hid (Jnw.out.alloc (.cells #[.complex .f32 m.pr m.pi, .complex .f32 m.gr m.gi] 61 (0, 0)))
          have hss := (Jst.out.lt _ rfl)
          have hoo := (Jou.out.lt _ rfl)
          clear e1 e2
          go_cut [] (fun wx => RingDI w.heap.size w.heap.size w1.heap.size w3.heap.size n q ms (inputOf xs) (.slice (some ⟨g, 0, none⟩) q vc) w k (j + 1) (outD ((stepAllD ms (stDAt ms (inputOf xs) k) (wid (inputOf xs k))).take j)) wx)
          case first =>
            obtain ⟨w4, hw4⟩ : ∃ w4, w4 = wr.alloc (.cells #[.complex .f32 m.pr m.pi, .complex .f32 m.gr m.gi] 61 (0, 0)) := ⟨_, rfl⟩
            rw [← hw4] at K1 K2 K3 K4 K5
            rw [← hw4]
            clear hw4
            obtain ⟨l0, l1, l2, l3, l4⟩ := K1.out
            have e3 := K2.out.cellAt j (by omega)
            rw [mixedD_at ms (stDAt ms (inputOf xs) k) (wid (inputOf xs k)) j s (stDAt_len ms (inputOf xs) k).symm Hsk.out] at e3
            have e4 := K2.out.frozenAt j
            have Hsd := Lib.hid (Hk.out.2.1 j m s Hmk.out Hsk.out)
            obtain ⟨n1, n2, n3, n4⟩ := Hmo.out.nums
            refine wp_region_still_tail 14 (by kernel_rfl) (by kernel_rfl) ?_
            simp only [List.take_succ_cons, List.take_zero, List.drop_succ_cons, List.drop_zero]
            still_step
            still_step
            still_step
            still_step
            still_call ((implWiden_fin _ _ _ n1 n2).mono fun _ _ h => ⟨h.1, h.2.symm⟩)
            still_step
            still_step
            still_call ((implWiden_fin _ _ _ n3 n4).mono fun _ _ h => ⟨h.1, h.2.symm⟩)
            still_step
            still_step
            still_step
            still_step
            still_step
            still_call ((stepDouble_ok m s (wid (inputOf xs k)) _ Hsd.out).mono fun _ _ h => ⟨h.1, h.2.symm⟩)
            refine wpStill_nil ?_
            change wpList _ _ _ _ _ (w4.drewN 1)
            have G2 := Lib.hid (own_nw K2.out ((Nw.refl w4).draw 1))
            have G3 := Lib.hid (own_nw K3.out ((Nw.refl w4).draw 1))
            have G4 := Lib.hid (K4.out.draw 1)
            have G5 := Lib.hid (K5.out.draw 1)
            have hs4 := (K2.out.lt _ rfl)
            clear e3 e4 l1 l2 l3 l4
            generalize w4.drewN 1 = w5 at *
            have e3 := G2.out.cellAt j (by omega)
            rw [mixedD_at ms (stDAt ms (inputOf xs) k) (wid (inputOf xs k)) j s (stDAt_len ms (inputOf xs) k).symm Hsk.out] at e3
            have e4 := G2.out.frozenAt j
            have hset := G2.out.stored j (.complex .f64 (stepD m s (wid (inputOf xs k))).1 (stepD m s (wid (inputOf xs k))).2)
            have hfin : RingDI w.heap.size w.heap.size w1.heap.size w3.heap.size n q ms (inputOf xs) (.slice (some ⟨g, 0, none⟩) q vc) w k (j + 1) (outD ((stepAllD ms (stDAt ms (inputOf xs) k) (wid (inputOf xs k))).take j)) (w5.setCell ⟨w1.heap.size, j, none⟩ (.complex .f64 (stepD m s (wid (inputOf xs k))).1 (stepD m s (wid (inputOf xs k))).2)) :=
              ⟨mixedD_step ms (stDAt ms (inputOf xs) k) (wid (inputOf xs k)) j m s Hmk.out Hsk.out ▸ hset.1, G3.out.kept hset.2 (.inr (fun e => by simp [Value.ownBlock] at e; omega)), G4.out.set (by show w1.heap.size ≠ w.heap.size; omega) _, G5.out.set (by show w.heap.size ≤ w1.heap.size; omega) _⟩
            have Hfin := Lib.hid hfin
            clear hfin hset
            go_wp2_with fail
            go_meet
            exact Hfin.out
          case rest =>
            obtain ⟨c1, c2, c3, c4⟩ := hcut
            have C1 := Lib.hid c1
            have C2 := Lib.hid c2
            have C3 := Lib.hid c3
            have C4 := Lib.hid c4
            clear c1 c2 c3 c4
            have e3 := C1.out.cellAt j (by omega)
            rw [mixedD_after ms (stDAt ms (inputOf xs) k) (wid (inputOf xs k)) j m s Hmk.out Hsk.out] at e3
            have e5 := C2.out.cellAt k (by omega)
            rw [outsD_cell ms (inputOf xs) n k _ hlt] at e5
            have e6 := C2.out.frozenAt k
            have hsk := stepAllD_at ms (stDAt ms (inputOf xs) k) (wid (inputOf xs k)) j m s Hmk.out Hsk.out
            have hcalm := Hk.out.2.2 j _ hsk
            rw [show (stDAt ms (inputOf xs) (k + 1)).take j = (stepAllD ms (stDAt ms (inputOf xs) k) (wid (inputOf xs k))).take j from rfl] at hcalm
            have r1 := hcalm.run (P := Try.prog) 49
            have Hout := Lib.hid (outD_take _ j _ hsk)
            clear hcalm hsk
            go_wp2_with fail
            refine wp_region_still_tail 10 (by kernel_rfl) (by kernel_rfl) ?_
            simp only [List.take_succ_cons, List.take_zero, List.drop_succ_cons, List.drop_zero]
            repeat still_step
            refine wpStill_nil ?_
            change wpList _ _ _ _ _ (wc.drewN 1)
            have G1 := Lib.hid (own_nw C1.out ((Nw.refl wc).draw 1))
            have G2 := Lib.hid (own_nw C2.out ((Nw.refl wc).draw 1))
            have G3 := Lib.hid (C3.out.draw 1)
            have G4 := Lib.hid (C4.out.draw 1)
            clear e3 e5 e6
            generalize wc.drewN 1 = w5 at *
            have e5 := G2.out.cellAt k (by omega)
            rw [outsD_cell ms (inputOf xs) n k _ hlt] at e5
            have e6 := G2.out.frozenAt k
            have hset := G2.out.stored k (.float .f64 (opB .add .f64 (outD ((stepAllD ms (stDAt ms (inputOf xs) k) (wid (inputOf xs k))).take j)) (stepD m s (wid (inputOf xs k))).1))
            rw [outsD_set, ← Hout.out] at hset
            have hfin : RingDI w.heap.size w.heap.size w1.heap.size w3.heap.size n q ms (inputOf xs) (.slice (some ⟨g, 0, none⟩) q vc) w k (j + 1) (outD ((stepAllD ms (stDAt ms (inputOf xs) k) (wid (inputOf xs k))).take (j + 1))) (w5.setCell ⟨w3.heap.size, k, none⟩ (.float .f64 (opB .add .f64 (outD ((stepAllD ms (stDAt ms (inputOf xs) k) (wid (inputOf xs k))).take j)) (stepD m s (wid (inputOf xs k))).1))) := by
              rw [← Hout.out]
              exact ⟨G1.out.kept hset.2 (.inr (fun e => by simp [Value.ownBlock] at e; omega)), hset.1, G3.out.set (by show w3.heap.size ≠ w.heap.size; omega) _, G4.out.set (by show w.heap.size ≤ w3.heap.size; omega) _⟩
            have Hfin := Lib.hid hfin
            clear hfin hset
            go_wp2_with fail
            go_roundw
            case rel => exact ⟨j + 1, by omega, by rw [show ((j + 1 : Nat) : Int) = (j : Int) + 1 from by omega], Hfin.out⟩
            case measure => simp only [intOf]; omega
        · obtain rfl : j = q := by omega
          have Hdone := Lib.hid (show RingDI w.heap.size w.heap.size w1.heap.size w3.heap.size n j ms (inputOf xs) (.slice va j vc) w (k + 1) 0 0 wr from by
            refine ⟨?_, ?_, Jbx.out, Jnw.out⟩
            · have := Jst.out
              rw [show mixedD ms (stDAt ms (inputOf xs) k) (wid (inputOf xs k)) j = stepAllD ms (stDAt ms (inputOf xs) k) (wid (inputOf xs k)) from by rw [← mixedD_full ms _ _ (stDAt_len ms (inputOf xs) k).symm, Hq.out]] at this
              exact this
            · have := Jou.out
              rw [show (stepAllD ms (stDAt ms (inputOf xs) k) (wid (inputOf xs k))).take j = stDAt ms (inputOf xs) (k + 1) from List.take_of_length_le (by simp [stepAllD, stDAt_len, Hq.out]), outsD_next ms (inputOf xs) n k hlt] at this
              exact this)
          go_wp2_with fail
          go_roundw
          case rel => exact ⟨k + 1, by omega, by rw [show ((k + 1 : Nat) : Int) = (k : Int) + 1 from by omega], Hdone.out⟩
          case measure => simp only [intOf]; omega
    · obtain rfl : k = n := by omega
      go_wp2_with fail
      go_ret2
      refine ⟨_, rfl, ?_, Hnw.out⟩
      have := Hou.out
      rw [outsD_full] at this
      simpa [ringD] using this

end Go.Proofs.Ytlhhcchncobmhaa

/- The walk of DriftOf, where nothing overflows: the drift is at most what each difference is.
   Conditions: those that each statement names. -/
namespace Go.Proofs.Ytlhhcchncobmhaa
set_option linter.unusedSimpArgs false
set_option linter.unusedVariables false
open Go Go.RowKit

/-- each difference between the two ringings is at most Bd -/
def DiffOk (ms : List M4) (x : Nat → Nat) (n : Nat) (Bd : Rat) : Prop :=
  ∀ i, i < n → Sm (outS (stAt ms x (i + 1))) ∧ ∃ r, floatBits .sub .f64 (outD (stDAt ms x (i + 1))) (wid (outS (stAt ms x (i + 1)))) = some r ∧ Flo.Nm r ∧ Flo.Ab (Flo.W r) Bd

def DriftP (Bd : Rat) (w : World) (e : Ending) (w' : World) : Prop :=
  ∃ g : Nat, e = .returned (.tuple #[.float .f64 g, .bool true]) ∧ Flo.Nm g ∧ Flo.W g ≤ Bd ∧ Nw w w'
def DriftI (Bd : Rat) (n : Nat) (w : World) (y i : Value) (wr : World) : Prop :=
  ∃ k g : Nat, k ≤ n ∧ i = .int .i64 (k : Int) ∧ y = .float .f64 g ∧ Flo.Nm g ∧ Flo.W g ≤ Bd ∧ Nw w wr

theorem own_f64 {w : World} {base n k : Nat} {v : Value} {xs : List Nat} (h : w.ownsRow base 49 1 v n (cellsF xs)) {x : Nat} (hk : xs[k]? = some x) (hn : n = xs.length) :
    ∃ g cap, v = .slice (some ⟨g, 0, none⟩) n cap ∧ n ≤ cap ∧ cap ≤ maxLen ∧ g < w.heap.size ∧ w.cell? ⟨g, k, none⟩ = some (.float .f64 x) := by
  have hkl := (List.getElem?_eq_some_iff.1 hk).1
  rcases h.2 with ⟨_, h0⟩ | ⟨g, cap, cur, rfl, hb, hg, hc, hm, hs, ht⟩
  · omega
  · have c1 := h.cellAt k (by omega)
    rw [show (cellsF xs)[k]? = some (.float .f64 x) from by simp [cellsF, hk]] at c1
    exact ⟨g, cap, rfl, hc, hm, (h.lt g rfl).2, c1⟩

set_option maxHeartbeats 3200000 in
theorem driftOf_ok (ms : List M4) (hms : ∀ m ∈ ms, m.ok) (xs : List Nat) (n q bm bi : Nat) (v iv : Value) (hq : ms.length = q) (hq16 : q ≤ 16) (hxl : xs.length ≤ 1048576) (hn : n ≤ 2000) (Bd : Rat) (hBd : 0 ≤ Bd) (w : World)
    (hm : w.ownsRow bm 61 2 v q (cellsM ms)) (hi : w.ownsRow bi 31 1 iv xs.length (cellsS xs)) (hok : RingOk ms (inputOf xs) n) (hokd : RingDOk ms (inputOf xs) n) (hdiff : DiffOk ms (inputOf xs) n Bd) :
    Calls Try.prog 77 #[.agg #[v], iv, .int .i64 (n : Int)] w (DriftP Bd w) := by
  obtain ⟨va, vc, rfl⟩ := own_shape' hm
  obtain ⟨ia, ic, rfl⟩ := own_shape' hi
  have Hm := Lib.hid hm
  have Hi := Lib.hid hi
  have Hok := Lib.hid hok
  have Hokd := Lib.hid hokd
  have Hdiff := Lib.hid hdiff
  have Hq := Lib.hid hq
  have Hbox := Lib.hid (Has1.new w 69 (.slice va q vc))
  have Hn0 := Lib.hid ((Nw.refl w).alloc (.cells #[.slice va q vc] 69 (0, 0)))
  clear hm hi hok hokd hdiff hq
  go_enter Try.func77, Try.ntmps77
  go_wp2_with fail
  refine (ringBody_ok ms hms xs n q bm bi _ _ Hq.out hq16 hxl hn _ (own_nw Hm.out Hn0.out) (own_nw Hi.out Hn0.out) Hok.out).mono ?_
  rintro e w1 ⟨s1, rfl, own1, n1⟩
  obtain ⟨sa, sc, rfl⟩ := own_shape' own1
  have Hn1 := Lib.hid (Hn0.out.trans n1)
  have Hb1 := Lib.hid (Hbox.out.nw n1)
  have hl1 : (ringS ms (inputOf xs) n).length = n := by simp [ringS]
  rw [hl1] at own1 ⊢
  have Own1 := Lib.hid own1
  clear own1 n1 hl1
  obtain ⟨b0, b1, b2⟩ := Hb1.out
  go_wp2_with fail
  refine (ringDouble_ok ms hms xs n q bm bi _ _ Hq.out hq16 hxl hn _ (own_nw Hm.out Hn1.out) (own_nw Hi.out Hn1.out) Hokd.out).mono ?_
  rintro e w2 ⟨s2, rfl, own2, n2⟩
  obtain ⟨da, dc, rfl⟩ := own_shape' own2
  have Hn2 := Lib.hid (Hn1.out.trans n2)
  have Own2 := Lib.hid (own_nw Own1.out n2)
  have hl2 : (ringD ms (inputOf xs) n).length = n := by simp [ringD]
  rw [hl2] at own2 ⊢
  have OwnD := Lib.hid own2
  clear own2 n2 hl2 b0 b1 b2
  go_wp2_with fail
  go_loopw [11, 34] (fun y i wr => DriftI Bd n w2 y i wr) (fun _ i _ => n - (intOf i).toNat)
  case atStart => exact ⟨0, 0, by omega, rfl, rfl, zero_num.1, by rw [zero_num.2]; exact hBd, Nw.refl _⟩
  case round =>
    obtain ⟨k, g, hk, rfl, rfl, hg, hgb, hnw⟩ := hrel
    have Hg := Lib.hid hg
    have Hgb := Lib.hid hgb
    have Hnw := Lib.hid hnw
    clear hg hgb hnw
    by_cases hlt : k < n
    · obtain ⟨sm, r, hr, nr, hb⟩ := Hdiff.out k hlt
      have hsk : (ringS ms (inputOf xs) n)[k]? = some (outS (stAt ms (inputOf xs) (k + 1))) := by simp [ringS, hlt]
      have hdk : (ringD ms (inputOf xs) n)[k]? = some (outD (stDAt ms (inputOf xs) (k + 1))) := by simp [ringD, hlt]
      obtain ⟨g1, cap1, hv1, hcap1, hmax1, -, e1⟩ := own_sample (own_nw Own2.out Hnw.out) hsk (by simp [ringS])
      obtain ⟨g2, cap2, hv2, hcap2, hmax2, -, e2⟩ := own_f64 (own_nw OwnD.out Hnw.out) hdk (by simp [ringD])
      cases hv1
      cases hv2
      have a1 := fcv_up sm
      have a2 := fcd_up sm
      obtain ⟨hc, hb3⟩ := Calm.of hr
      have r64 : r < 2 ^ 64 := by have := floatBits_wf hr; simpa [Lit.wf] using this
      have hrun : ∀ w, (binOp .sub 49 (.float .f64 (outD (stDAt ms (inputOf xs) (k + 1)))) (.float .f64 (wid (outS (stAt ms (inputOf xs) (k + 1)))))).run Try.prog w = .ok (.float .f64 r) w := fun w => by
        rw [run_fl_sub, hc.res, hc.fdr, hb3]; rfl
      have Nr := Lib.hid nr
      have Hbr := Lib.hid hb
      unfold maxLen at hmax1 hmax2
      clear hsk hdk hc hb3 hr nr hb sm
      go_wp2_with fail
      go_quiet (first
        | (go_at_call 101; exact quiet_eq (abs_any _ _ r64)))
      have Habs := Lib.hid (abs_num r Nr.out)
      have Hnw3 := Lib.hid (Hnw.out.draw nq)
      go_wp2_with fail
      all_goals
        go_roundw
        case rel =>
          first
            | exact ⟨k + 1, r % signBit, by omega, by rw [show ((k + 1 : Nat) : Int) = (k : Int) + 1 from by omega], rfl, Habs.out.1, by rw [show Flo.W (r % signBit) = _ from Habs.out.2]; exact ra_le Hbr.out, Hnw3.out⟩
            | exact ⟨k + 1, g, by omega, by rw [show ((k + 1 : Nat) : Int) = (k : Int) + 1 from by omega], rfl, Hg.out, Hgb.out, Hnw3.out⟩
        case measure => simp only [intOf]; omega
    · go_wp2_with fail
      go_ret2
      exact ⟨g, rfl, Hg.out, Hgb.out, Hn2.out.trans Hnw.out⟩

end Go.Proofs.Ytlhhcchncobmhaa

/- The walks of l8Same, FirstDifference and same: what they answer of two rows of samples that are numbers.
   Conditions: those that each statement names. -/
namespace Go.Proofs.Ytlhhcchncobmhaa
set_option linter.unusedSimpArgs false
set_option linter.unusedVariables false
open Go Go.RowKit

/-- are two numbers the same: NaN and NaN, zeros of one sign, or equal ones -/
def sameB (a b : Nat) : Bool :=
  if (FloatKind.f64.decode a).isNaN || (FloatKind.f64.decode b).isNaN then (FloatKind.f64.decode a).isNaN && (FloatKind.f64.decode b).isNaN
  else if (FloatKind.f64.format.order a 0 == some .eq) && (FloatKind.f64.format.order b 0 == some .eq) then
    (FloatKind.f64.format.order (opB .quo .f64 4607182418800017408 a) 0 == some .gt) == (FloatKind.f64.format.order (opB .quo .f64 4607182418800017408 b) 0 == some .gt)
  else FloatKind.f64.format.order a b == some .eq

theorem one_quo (a : Nat) (h : (FloatKind.f64.decode a).isNaN = false) : Calm .quo .f64 4607182418800017408 a := by
  have h1 : Ieee.double.read 4607182418800017408 = .number false 4503599627370496 (-52) := by decide
  have hx : ∃ r, floatBits .quo .f64 4607182418800017408 a = some r := by
    unfold FloatKind.decode at h
    rw [show FloatKind.f64.format = Ieee.double from rfl] at h
    show ∃ r, Ieee.double.div 4607182418800017408 a = some r
    unfold Ieee.Format.div
    rw [h1]
    cases hd : Ieee.double.read a with
    | number s m p => by_cases hm : m = 0 <;> simp [Ieee.Datum.quotient, hm]
    | infinity s => exact ⟨_, rfl⟩
    | nan s f => rw [hd] at h; simp [Ieee.Datum.isNaN] at h
  obtain ⟨r, hr⟩ := hx
  exact (Calm.of hr).1

theorem l8Same_any (a b : Nat) (w : World) :
    Calls Try.prog 67 #[.float .f64 a, .float .f64 b] w fun e w' => e = .returned (.bool (sameB a b)) ∧ w = w' := by
  have o1 := order_self .f64 a
  have o2 := order_self .f64 b
  cases ha : (FloatKind.f64.decode a).isNaN
  all_goals cases hb : (FloatKind.f64.decode b).isNaN
  all_goals rw [ha] at o1; rw [hb] at o2
  case false.false =>
    have c1 := one_quo a ha
    have c2 := one_quo b hb
    have r1 := c1.res
    have r2 := c2.res
    have d1 := c1.fdr
    have d2 := c2.fdr
    go_enter Try.func67, Try.ntmps67
    go_wp2
    all_goals (go_ret; refine ⟨by simp_all [sameB], ?_⟩; first | rfl | (exfalso; simp_all))
  all_goals
    go_enter Try.func67, Try.ntmps67
    go_wp2
    all_goals (go_ret; refine ⟨by simp_all [sameB], ?_⟩; first | rfl | (exfalso; simp_all))

theorem sameB_self (a : Nat) : sameB a a = true := by
  unfold sameB
  cases ha : (FloatKind.f64.decode a).isNaN
  · have o1 := order_self .f64 a
    rw [ha] at o1
    simp only [Bool.or_self, Bool.false_eq_true, if_false, beq_self_eq_true]
    split
    · rfl
    · simpa using o1
  · simp

def SameI (n : Nat) (w : World) (i : Value) (wr : World) : Prop := ∃ k : Nat, k ≤ n ∧ i = .int .i64 (k : Int) ∧ Nw w wr

set_option maxRecDepth 100000 in
theorem firstDifference_eq (xs ys : List Nat) (n bx cy : Nat) (v u : Value) (hx : xs.length = n) (hy : ys.length = n) (hn : n ≤ 1048576) (w : World)
    (ox : w.ownsRow bx 31 1 v n (cellsS xs)) (oy : w.ownsRow cy 31 1 u n (cellsS ys)) (hsx : ∀ x ∈ xs, Sm x) (hsy : ∀ y ∈ ys, Sm y)
    (hs : ∀ (k : Nat) x y, xs[k]? = some x → ys[k]? = some y → sameB (wid x) (wid y) = true) :
    Calls Try.prog 54 #[v, u] w fun e w' => e = .returned (.int .i64 (-1)) ∧ Nw w w' := by
  obtain ⟨va, vc, rfl⟩ := own_shape' ox
  obtain ⟨ua, uc, rfl⟩ := own_shape' oy
  have Ox := Lib.hid ox
  have Oy := Lib.hid oy
  have Hx := Lib.hid hx
  have Hy := Lib.hid hy
  have Hsx := Lib.hid hsx
  have Hsy := Lib.hid hsy
  have Hs := Lib.hid hs
  clear ox oy hx hy hsx hsy hs
  go_enter Try.func54, Try.ntmps54
  go_wp2_with fail
  go_loopw [5] (fun i wr => SameI n w i wr) (fun i _ => n - (intOf i).toNat)
  case atStart => exact ⟨0, by omega, rfl, Nw.refl _⟩
  case round =>
    obtain ⟨k, hk, rfl, hN⟩ := hrel
    have Nr := Lib.hid hN
    clear hN
    by_cases hlt : k < n
    · obtain ⟨x, hxk⟩ : ∃ x, xs[k]? = some x := ⟨xs[k]'(by rw [Hx.out]; exact hlt), List.getElem?_eq_getElem _⟩
      obtain ⟨y, hyk⟩ : ∃ y, ys[k]? = some y := ⟨ys[k]'(by rw [Hy.out]; exact hlt), List.getElem?_eq_getElem _⟩
      obtain ⟨g1, cap1, hv1, hcap1, hmax1, -, e1⟩ := own_sample (own_nw Ox.out Nr.out) hxk Hx.out.symm
      obtain ⟨g2, cap2, hv2, hcap2, hmax2, -, e2⟩ := own_sample (own_nw Oy.out Nr.out) hyk Hy.out.symm
      cases hv1
      cases hv2
      have hb := Hs.out k x y hxk hyk
      have sx := Hsx.out x (List.mem_of_getElem? hxk)
      have sy := Hsy.out y (List.mem_of_getElem? hyk)
      have a1 := fcv_up sx
      have a2 := fcd_up sx
      have b1 := fcv_up sy
      have b2 := fcd_up sy
      unfold maxLen at hmax1 hmax2
      clear hxk hyk sx sy
      go_wp2_with fail
      go_quiet (first | (go_at_call 67; with_reducible exact quiet_eq (l8Same_any _ _ _)))
      have N2 := Lib.hid (Nr.out.draw nq)
      go_wp2_with fail
      go_roundw
      case rel => exact ⟨k + 1, by omega, by rw [show ((k + 1 : Nat) : Int) = (k : Int) + 1 from by omega], N2.out⟩
      case measure => simp only [intOf]; omega
    · obtain rfl : k = n := by omega
      go_wp2_with fail
      go_ret
      exact ⟨rfl, Nr.out⟩

theorem same_eq (xs ys : List Nat) (n bx cy : Nat) (v u : Value) (hx : xs.length = n) (hy : ys.length = n) (hn : n ≤ 1048576) (w : World)
    (ox : w.ownsRow bx 31 1 v n (cellsS xs)) (oy : w.ownsRow cy 31 1 u n (cellsS ys)) (hsx : ∀ x ∈ xs, Sm x) (hsy : ∀ y ∈ ys, Sm y)
    (hs : ∀ (k : Nat) x y, xs[k]? = some x → ys[k]? = some y → sameB (wid x) (wid y) = true) :
    Calls Try.prog 14 #[v, u] w fun e w' => e = .returned (.bool true) ∧ Nw w w' := by
  have Ox := Lib.hid ox
  have Oy := Lib.hid oy
  have Hs := Lib.hid (And.intro hx (And.intro hy (And.intro hsx (And.intro hsy hs))))
  clear ox oy hx hy hsx hsy hs
  go_enter Try.func14, Try.ntmps14
  go_wp2_with fail
  refine (firstDifference_eq xs ys n bx cy _ _ Hs.out.1 Hs.out.2.1 hn _ Ox.out Oy.out Hs.out.2.2.1 Hs.out.2.2.2.1 Hs.out.2.2.2.2).mono ?_
  rintro e w1 ⟨rfl, n1⟩
  have N1 := Lib.hid n1
  clear n1
  go_wp2
  go_ret
  exact ⟨rfl, N1.out⟩

end Go.Proofs.Ytlhhcchncobmhaa

/- The walks of the recordings' functions: RingMode of any numbers, modulo the bits of NaNs.
   Conditions: those that each statement names. -/
namespace Go.Proofs.Ytlhhcchncobmhaa
set_option linter.unusedSimpArgs false
set_option linter.unusedVariables false
open Go Go.RowKit

def cellsZ (zs : List (Nat × Nat)) : List Value := zs.map fun z => .complex .f64 z.1 z.2
theorem cellsZ_len (zs : List (Nat × Nat)) : (cellsZ zs).length = zs.length := by simp [cellsZ]
theorem cellsZ_at {zs : List (Nat × Nat)} {k : Nat} {z : Nat × Nat} (h : zs[k]? = some z) : (cellsZ zs)[k]? = some (.complex .f64 z.1 z.2) := by
  simp [cellsZ, h]
theorem cellsZ_set (zs : List (Nat × Nat)) (k : Nat) (x y : Nat) : (cellsZ zs).set k (.complex .f64 x y) = cellsZ (zs.set k (x, y)) := by
  simp [cellsZ, List.map_set]
theorem cellsZ_snoc (zs : List (Nat × Nat)) (x y : Nat) : cellsZ (zs ++ [(x, y)]) = cellsZ zs ++ [.complex .f64 x y] := by simp [cellsZ]

abbrev FC := Option Nat × Option Nat
def fabC (z : Nat × Nat) : FC := (fab .f64 z.1, fab .f64 z.2)
def mulC (a b : FC) : FC := (mulRe a.1 a.2 b.1 b.2, mulIm a.1 a.2 b.1 b.2)
def addC (a b : FC) : FC := (fA .add .f64 a.1 b.1, fA .add .f64 a.2 b.2)
def ringC (p s : FC) : Nat → FC
  | 0 => s
  | i + 1 => mulC (ringC p s i) p
theorem ringC_on (p s : FC) (k : Nat) : ∀ i, ringC p (ringC p s k) i = ringC p s (k + i)
  | 0 => rfl
  | i + 1 => by rw [show k + (i + 1) = (k + i) + 1 from by omega]; simp only [ringC]; rw [ringC_on p s k i]
def Wz (z : Nat × Nat) : Prop := z.1 < 2 ^ 64 ∧ z.2 < 2 ^ 64
/-- the recording of a mode's own ringing -/
def Ringing (p s : FC) (zs : List (Nat × Nat)) : Prop := ∀ (i : Nat) z, zs[i]? = some z → fabC z = ringC p s i ∧ Wz z

theorem info_z128 : (Try.prog.info? 41).map (fun i => (i.zero, i.size, i.bytes)) = some (some (.complex .f64 0 0), 1, 16) := by kernel_rfl

def RecP (B n : Nat) (p s : FC) (w : World) (e : Ending) (w' : World) : Prop :=
  ∃ (v : Value) (zs : List (Nat × Nat)), e = .returned (.tuple #[v, .bool true]) ∧ zs.length = n ∧ w'.ownsRow B 41 1 v n (cellsZ zs) ∧ Ringing p s zs ∧ Nw w w'

/-- the head of a round of RingMode: k numbers are laid -/
def RecI (B g n : Nat) (p s : FC) (w : World) (number i : Value) (wr : World) : Prop :=
  ∃ (k x y : Nat) (zs : List (Nat × Nat)), k ≤ n ∧ i = .int .i64 (k : Int) ∧ number = .complex .f64 x y ∧ fabC (x, y) = ringC p s k ∧ Wz (x, y) ∧ zs.length = n ∧
    wr.ownsRow B 41 1 (.slice (some ⟨g, 0, none⟩) n n) n (cellsZ zs) ∧ Ringing p s (zs.take k) ∧ Nw w wr

theorem ringing_next {p s : FC} {zs : List (Nat × Nat)} {k x y : Nat} (h : Ringing p s (zs.take k)) (hx : fabC (x, y) = ringC p s k) (hw : Wz (x, y)) (hk : k < zs.length) :
    Ringing p s ((zs.set k (x, y)).take (k + 1)) := by
  intro i z hz
  by_cases hik : i < k
  · refine h i z ?_
    rw [List.getElem?_take] at hz ⊢
    rw [if_pos (by omega)] at hz
    rw [if_pos hik]
    rwa [List.getElem?_set_ne (by omega)] at hz
  · rw [List.getElem?_take] at hz
    split at hz
    · obtain rfl : i = k := by omega
      rw [List.getElem?_set_self hk] at hz
      cases hz
      exact ⟨hx, hw⟩
    · cases hz

set_option maxRecDepth 100000 in
theorem ringMode_any (a b c d n : Nat) (ha : Wz (a, b)) (hc : Wz (c, d)) (hn : n ≤ 2000) (w : World) :
    Calls Try.prog 19 #[.complex .f64 a b, .complex .f64 c d, .int .i64 (n : Int)] w (RecP w.heap.size n (fabC (a, b)) (fabC (c, d)) w) := by
  obtain ⟨j0, hj, hjz0, hjz1, hjz2⟩ := info_parts info_z128
  go_enter Try.func19, Try.ntmps19
  go_wp2_with fail
  refine (isSteps_ok n hn _).mono ?_
  rintro e w1 ⟨rfl, rfl⟩
  go_wp2_with (first
    | (at_make; refine wpList_make_full _ rfl _ _ 43 rfl w.heap.size 41 j0 (.complex .f64 0 0) 1 Try.underlying43 hj hjz0 hjz1 _ _ _ _ n rfl rfl rfl rfl (by rw [hjz2]; omega) (by unfold maxLen; omega) (Nat.le_refl _) ?_))
  intro w3 hown3 hgrow3
  have Hs3 := Lib.hid (show w3.ownsRow w.heap.size 41 1 (.slice (some ⟨w.heap.size, 0, none⟩) n n) n (cellsZ (List.replicate n (0, 0))) from by
    rw [toList_madeCells_one] at hown3
    simpa [cellsZ] using hown3)
  have Hn3 := Lib.hid (show Nw w w3 from hgrow3)
  clear hown3 hgrow3
  go_wp2_with fail
  go_loopw [9, 19] (fun number i wr => RecI w.heap.size w.heap.size n (fabC (a, b)) (fabC (c, d)) w number i wr) (fun _ i _ => n - (intOf i).toNat)
  case atStart => exact ⟨0, c, d, List.replicate n (0, 0), by omega, rfl, rfl, rfl, hc, by simp, Hs3.out, by intro i z hz; simp at hz, Hn3.out⟩
  case round =>
    obtain ⟨k, x, y, zs, hk, rfl, rfl, hxy, hwz, hzl, hown, hring, hnw⟩ := hrel
    have Hxy := Lib.hid hxy
    have Hwz := Lib.hid hwz
    have Hzl := Lib.hid hzl
    have Hown := Lib.hid hown
    have Hring := Lib.hid hring
    have Hnw := Lib.hid hnw
    clear hxy hwz hzl hown hring hnw
    by_cases hlt : k < n
    · obtain ⟨z, hzk⟩ : ∃ z, zs[k]? = some z := ⟨zs[k]'(by rw [Hzl.out]; exact hlt), List.getElem?_eq_getElem _⟩
      have e3 := Hown.out.cellAt k (by omega)
      rw [cellsZ_at hzk] at e3
      have e4 := Hown.out.frozenAt k
      have hset := Hown.out.stored k (.complex .f64 x y)
      rw [cellsZ_set] at hset
      have Hset := Lib.hid hset.1
      have Hnw2 := Lib.hid (Hnw.out.set (p := ⟨w.heap.size, k, none⟩) (by show w.heap.size ≤ w.heap.size; omega) (.complex .f64 x y))
      clear hset hzk
      go_wp2_with fail
      refine (implMul_any _ _ _ _ _).mono ?_
      rintro e w5 ⟨p, q, n5, rfl, rfl, hp, hq, hp64, hq64⟩
      have Hp := Lib.hid hp
      have Hq := Lib.hid hq
      clear hp hq e3 e4
      go_wp2_with fail
      go_roundw
      case rel =>
        refine ⟨k + 1, p, q, zs.set k (x, y), by omega, by rw [show ((k + 1 : Nat) : Int) = (k : Int) + 1 from by omega], rfl, ?_, ⟨hp64, hq64⟩, by rw [List.length_set]; exact Hzl.out, own_nw Hset.out ((Nw.refl _).draw _), ringing_next Hring.out Hxy.out Hwz.out (by rw [Hzl.out]; exact hlt), Hnw2.out.draw _⟩
        show fabC (p, q) = mulC (ringC (fabC (a, b)) (fabC (c, d)) k) (fabC (a, b))
        rw [← Hxy.out]
        unfold fabC mulC
        rw [Hp.out, Hq.out]
      case measure => simp only [intOf]; omega
    · obtain rfl : k = n := by omega
      go_wp2_with fail
      go_ret2
      refine ⟨_, zs, rfl, Hzl.out, Hown.out, ?_, Hnw.out⟩
      have h := Hring.out
      rwa [List.take_of_length_le (by rw [Hzl.out]; omega)] at h

/-! ### a row of complex numbers, wherever it begins -/
def RowZ (w : World) (v : Value) (zs : List (Nat × Nat)) : Prop :=
  ∃ a cap, v = .slice a zs.length cap ∧ zs.length ≤ cap ∧ cap ≤ maxLen ∧ (zs = [] ∨ ∃ g off, a = some ⟨g, off, none⟩ ∧ g < w.heap.size ∧ ∀ k z, zs[k]? = some z → w.cell? ⟨g, off + k, none⟩ = some (.complex .f64 z.1 z.2))
theorem RowZ.nw {w w' : World} {v : Value} {zs : List (Nat × Nat)} (h : RowZ w v zs) (n : Nw w w') : RowZ w' v zs := by
  obtain ⟨a, cap, h1, h2, h3, h4⟩ := h
  refine ⟨a, cap, h1, h2, h3, ?_⟩
  rcases h4 with h4 | ⟨g, off, h5, h6, h7⟩
  · exact .inl h4
  · exact .inr ⟨g, off, h5, by have := n.size; omega, fun k z hz => by rw [n.cell (p := ⟨g, off + k, none⟩) h6]; exact h7 k z hz⟩
theorem RowZ.of_own {w : World} {base n : Nat} {v : Value} {zs : List (Nat × Nat)} (h : w.ownsRow base 41 1 v n (cellsZ zs)) (hn : zs.length = n) : RowZ w v zs := by
  have h0 := h
  subst hn
  rcases h.2 with ⟨rfl, h2⟩ | ⟨g, cap, cur, rfl, hb, hg, hc, hm, hs, ht⟩
  · refine ⟨none, 0, by rw [h2], by omega, by unfold maxLen; omega, .inl ?_⟩
    exact List.length_eq_zero_iff.1 h2
  · refine ⟨_, cap, rfl, hc, hm, .inr ⟨g, 0, rfl, (h0.lt g rfl).2, fun k z hz => ?_⟩⟩
    have hk := (List.getElem?_eq_some_iff.1 hz).1
    have c1 := h0.cellAt k (by omega)
    rw [cellsZ_at hz] at c1
    simpa using c1

/-! ### spectra -/
def specC (w : FC) : List FC → FC
  | [] => (some 0, some 0)
  | z :: zs => addC (mulC (specC w zs) w) z
theorem specC_drop (w : FC) (zs : List (Nat × Nat)) (k : Nat) (z : Nat × Nat) (h : zs[k]? = some z) :
    specC w ((zs.drop k).map fabC) = addC (mulC (specC w ((zs.drop (k + 1)).map fabC)) w) (fabC z) := by
  obtain ⟨hk, he⟩ := List.getElem?_eq_some_iff.1 h
  rw [List.drop_eq_getElem_cons hk, he]; rfl

def SpecI (W : FC) (zs : List (Nat × Nat)) (w : World) (number i : Value) (wr : World) : Prop :=
  ∃ (j x y : Nat), j ≤ zs.length ∧ i = .int .i64 ((j : Int) - 1) ∧ number = .complex .f64 x y ∧ fabC (x, y) = specC W ((zs.drop j).map fabC) ∧ Wz (x, y) ∧ Nw w wr
def SpecP (W : FC) (zs : List (Nat × Nat)) (w : World) (e : Ending) (w' : World) : Prop :=
  ∃ x y : Nat, e = .returned (.complex .f64 x y) ∧ fabC (x, y) = specC W (zs.map fabC) ∧ Wz (x, y) ∧ Nw w w'

set_option maxRecDepth 100000 in
theorem spectrumAt_any (zs : List (Nat × Nat)) (v : Value) (a b : Nat) (hl : zs.length ≤ 1048576) (w : World) (h : RowZ w v zs) :
    Calls Try.prog 23 #[v, .complex .f64 a b] w (SpecP (fabC (a, b)) zs w) := by
  obtain ⟨va, cap, rfl, hcap, hmax, hcell⟩ := h
  have Hcell := Lib.hid hcell
  clear hcell
  unfold maxLen at hmax
  obtain ⟨n, hn⟩ : ∃ n, n = zs.length := ⟨_, rfl⟩
  rw [← hn] at hl hcap
  rw [← hn]
  have Hn := Lib.hid hn
  clear hn
  go_enter Try.func23, Try.ntmps23
  go_wp2_with fail
  go_loopw [5, 6] (fun number i wr => SpecI (fabC (a, b)) zs w number i wr) (fun _ i _ => (intOf i + 1).toNat)
  case atStart => exact ⟨n, 0, 0, by rw [Hn.out]; exact Nat.le_refl _, rfl, rfl, by rw [Hn.out, List.drop_length]; rfl, ⟨by decide, by decide⟩, Nw.refl _⟩
  case round =>
    obtain ⟨j, x, y, hj, rfl, rfl, hxy, hwz, hnw⟩ := hrel
    rw [← Hn.out] at hj
    have Hxy := Lib.hid hxy
    have Hnw := Lib.hid hnw
    by_cases hj0 : 0 < j
    · obtain ⟨k, rfl⟩ : ∃ k, j = k + 1 := ⟨j - 1, by omega⟩
      rw [show (((k + 1 : Nat) : Int) - 1) = (k : Int) from by omega]
      obtain ⟨z, hzk⟩ : ∃ z, zs[k]? = some z := ⟨zs[k]'(by rw [← Hn.out]; omega), List.getElem?_eq_getElem _⟩
      rcases Hcell.out with h0 | ⟨g, off, rfl, hg, hc⟩
      · rw [h0] at hzk; simp at hzk
      have e1 := (hnw.cell (p := ⟨g, off + k, none⟩) hg).trans (hc k z hzk)
      have Hs := Lib.hid (specC_drop (fabC (a, b)) zs k z hzk)
      clear hc hxy hwz hnw hzk
      go_upto_region 5 with fail
      go_region_with (first
        | (go_at_call 22; refine (implMul_any _ _ _ _ _).mono ?_; rintro e w5 ⟨p, q, n5, rfl, rfl, hp, hq, hp64, hq64⟩))
      all_goals
        have Hp := Lib.hid hp
        have Hq := Lib.hid hq
        clear hp hq e1
        go_wp2_with fail
        go_roundw
        case rel =>
          refine ⟨k, _, _, by have := Hn.out; omega, rfl, rfl, ?_, ⟨fres_wf _ _ _ _ _, fres_wf _ _ _ _ _⟩, ?_⟩
          · rw [Hs.out, ← Hxy.out]
            unfold fabC mulC addC
            simp only [fab_fres]
            rw [Hp.out, Hq.out]
          · first | exact Hnw.out.draw _ | exact (Hnw.out.draw _).draw _ | exact ((Hnw.out.draw _).draw _).draw _
        case measure => simp only [intOf]; omega
    · obtain rfl : j = 0 := by omega
      go_wp2_with fail
      go_ret
      exact ⟨x, y, rfl, by simpa using hxy, hwz, hnw⟩

end Go.Proofs.Ytlhhcchncobmhaa

/- Plain facts on any numbers of single precision, NaN and infinities among them: widened, narrowed again, ordered; and on what sameFloat answers. No program stands in it.
   Conditions: those that each statement names. -/
namespace Go.Proofs.Ytlhhcchncobmhaa
set_option linter.unusedSimpArgs false
set_option linter.unusedVariables false
open Go

def nan32 (b : Nat) : Bool := (FloatKind.f32.decode b).isNaN
def nan64 (b : Nat) : Bool := (FloatKind.f64.decode b).isNaN

/-- are two numbers the same: NaN and NaN, zeros of one sign, or equal ones -/
def sameF (a b : Nat) : Bool :=
  if nan64 a || nan64 b then nan64 a && nan64 b
  else if (FloatKind.f64.format.order a 0 == some .eq) && (FloatKind.f64.format.order b 0 == some .eq) then
    (FloatKind.f64.format.order ((floatBits .quo .f64 4607182418800017408 a).getD 0) 0 == some .gt) == (FloatKind.f64.format.order ((floatBits .quo .f64 4607182418800017408 b).getD 0) 0 == some .gt)
  else FloatKind.f64.format.order a b == some .eq
theorem sameF_self (a : Nat) : sameF a a = true := by
  unfold sameF
  cases ha : nan64 a
  · have o1 := order_self .f64 a
    rw [show (FloatKind.f64.decode a).isNaN = false from ha] at o1
    simp only [Bool.or_self, Bool.false_eq_true, if_false, beq_self_eq_true]
    split
    · rfl
    · simpa using o1
  · simp
/-- the same but for the bits of NaN -/
theorem sameF_fab {a b : Nat} (h : fab .f64 a = fab .f64 b) : sameF a b = true := by
  cases ha : nan64 a
  · cases hb : nan64 b
    · rw [fab_some ha, fab_some hb] at h
      cases h
      exact sameF_self a
    · rw [fab_some ha, fab_none hb] at h; cases h
  · cases hb : nan64 b
    · rw [fab_none ha, fab_some hb] at h; cases h
    · unfold sameF; rw [ha, hb]; rfl

theorem wid_inf {b : Nat} {s : Bool} (h : Ieee.single.read b = .infinity s) : Ieee.double.read (wid b) = .infinity s := by
  unfold wid FloatKind.encode FloatKind.decode
  rw [show FloatKind.f32.format = Ieee.single from rfl, h]
  show Ieee.double.read (Ieee.double.word s Ieee.double.infRung) = _
  rw [Flo.read_word_inf, if_neg (by decide)]
theorem fcv_wide {b : Nat} (h : nan32 b = false) (w : World) : fcv w .f32 b .f64 = wid b := by
  cases hd : Ieee.single.read b with
  | number s m p => exact fcv_up ⟨s, m, p, hd⟩ w
  | infinity s =>
    have hd' : FloatKind.f32.decode b = .infinity s := hd
    unfold fcv wid
    rw [if_neg (by decide), hd']
  | nan s f =>
    have hd' : FloatKind.f32.decode b = .nan s f := hd
    unfold nan32 at h; rw [hd'] at h; cases h
theorem fcd_wide {b : Nat} (h : nan32 b = false) : fcd .f32 b .f64 = 0 := by
  cases hd : Ieee.single.read b with
  | number s m p => exact fcd_up ⟨s, m, p, hd⟩
  | infinity s =>
    have hd' : FloatKind.f32.decode b = .infinity s := hd
    unfold fcd
    rw [if_neg (by decide), hd']
  | nan s f =>
    have hd' : FloatKind.f32.decode b = .nan s f := hd
    unfold nan32 at h; rw [hd'] at h; cases h
theorem nan_wide {b : Nat} (h : nan32 b = true) (w : World) : nan64 (fcv w .f32 b .f64) = true := by
  unfold nan32 at h
  cases hd : FloatKind.f32.decode b with
  | number s m p => rw [hd] at h; cases h
  | infinity s => rw [hd] at h; cases h
  | nan s f =>
    unfold fcv
    rw [if_neg (by decide), hd]
    exact nan_conv _ _ _
theorem wid_nan {b : Nat} (h : nan32 b = false) : nan64 (wid b) = false := by
  unfold nan64
  cases hd : Ieee.single.read b with
  | number s m p =>
    obtain ⟨m', p', h1, -⟩ := wid_read hd
    rw [show FloatKind.f64.decode (wid b) = _ from h1]; rfl
  | infinity s => rw [show FloatKind.f64.decode (wid b) = _ from wid_inf hd]; rfl
  | nan s f => unfold nan32 at h; rw [show FloatKind.f32.decode b = _ from hd] at h; cases h
/-- what a number of single precision is, widened: none for NaN -/
def wA (b : Nat) : Option Nat := if nan32 b then none else some (wid b)
theorem fab_wide (b : Nat) (w : World) : fab .f64 (fcv w .f32 b .f64) = wA b := by
  unfold wA
  cases h : nan32 b
  · rw [fcv_wide h w, fab_some (wid_nan h)]; rfl
  · rw [fab_none (nan_wide h w)]; rfl

/-! ### order -/
theorem order_wide {a b : Nat} (ha : nan32 a = false) (hb : nan32 b = false) : FloatKind.f64.format.order (wid a) (wid b) = FloatKind.f32.format.order a b := by
  show Ieee.double.order (wid a) (wid b) = Ieee.single.order a b
  cases h1 : Ieee.single.read a with
  | nan s f => unfold nan32 at ha; rw [show FloatKind.f32.decode a = _ from h1] at ha; cases ha
  | infinity s =>
    have k1 := wid_inf h1
    cases h2 : Ieee.single.read b with
    | nan s f => unfold nan32 at hb; rw [show FloatKind.f32.decode b = _ from h2] at hb; cases hb
    | infinity t => unfold Ieee.Format.order; rw [k1, wid_inf h2, h1, h2]; try rfl
    | number t n j =>
      obtain ⟨m', p', k2, -⟩ := wid_read h2
      unfold Ieee.Format.order; rw [k1, k2, h1, h2]; try rfl
  | number s m i =>
    obtain ⟨m', p', k1, e1⟩ := wid_read h1
    cases h2 : Ieee.single.read b with
    | nan s f => unfold nan32 at hb; rw [show FloatKind.f32.decode b = _ from h2] at hb; cases hb
    | infinity t => unfold Ieee.Format.order; rw [k1, wid_inf h2, h1, h2]; try rfl
    | number t n j =>
      have sa : Sm a := ⟨_, _, _, h1⟩
      have sb : Sm b := ⟨_, _, _, h2⟩
      have o := Flo.order_num Ieee.single a b sa sb
      have O := Flo.order_num Ieee.double (wid a) (wid b) (wid_num sa).1 (wid_num sb).1
      have va : Flo.V Ieee.double (wid a) = Flo.V Ieee.single a := (wid_num sa).2
      have vb : Flo.V Ieee.double (wid b) = Flo.V Ieee.single b := (wid_num sb).2
      rw [va, vb] at O
      have hs : ∃ r, Ieee.single.order a b = some r := by unfold Ieee.Format.order; rw [h1, h2]; exact ⟨_, rfl⟩
      obtain ⟨r, hr⟩ := hs
      rw [hr]
      cases r
      · exact O.1.2 (o.1.1 hr)
      · exact O.2.1.2 (o.2.1.1 hr)
      · exact O.2.2.2 (o.2.2.1 hr)

end Go.Proofs.Ytlhhcchncobmhaa
