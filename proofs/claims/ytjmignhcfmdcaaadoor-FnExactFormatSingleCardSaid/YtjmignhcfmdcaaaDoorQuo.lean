/- Plain facts: the quotient of numbers of moderate size exists, and its product with the divisor is near the dividend, as the law's test of it says.
   Conditions: those that each statement names. -/
import Derived.Test.YtjmignhcfmdcaaaDoorMake
namespace Go.Proofs.YtjmignhcfmdcaaaDoor
set_option linter.unusedSimpArgs false
set_option linter.unusedVariables false
open Go Go.RowKit

theorem ra_ab (q : Rat) : Flo.Ab q (ra q) := by unfold ra Flo.Ab; split <;> grind
theorem ra_le {q B : Rat} (h : Flo.Ab q B) : ra q ≤ B := by unfold ra; unfold Flo.Ab at h; split <;> grind
theorem ra_or (q : Rat) : q = ra q ∨ q = -ra q := by unfold ra; split <;> grind

theorem abs_num (x : Nat) (h : Flo.Nm x) : Flo.Nm (Op.Complex.abs x) ∧ Flo.W (Op.Complex.abs x) = ra (Flo.W x) := by
  obtain ⟨s, m, p, hr⟩ := h
  have h1 := mod_read x
  rw [show FloatKind.f64.decode x = _ from hr] at h1
  have h2 : Ieee.double.read (Op.Complex.abs x) = .number false m p := h1
  refine ⟨⟨_, _, _, h2⟩, ?_⟩
  rw [show Flo.W (Op.Complex.abs x) = _ from Flo.V_eq h2, show Flo.W x = _ from Flo.V_eq hr]
  have hmp : 0 ≤ (m : Rat) * Flo.pw p := by
    have a1 : (0 : Rat) ≤ m := by exact_mod_cast Nat.zero_le m
    exact Rat.mul_nonneg a1 (Rat.le_of_lt (Flo.pw_pos p))
  unfold Flo.val ra
  cases s
  · simp only [Bool.false_eq_true, if_false]; rw [if_neg (by grind)]
  · simp only [if_true, Bool.false_eq_true, if_false]; split <;> grind

theorem absGe_iff (c d : Nat) (hc : Flo.Nm c) (hd : Flo.Nm d) : absGe c d = true ↔ ra (Flo.W d) ≤ ra (Flo.W c) := by
  have lc := abs_num c hc
  have ld := abs_num d hd
  have o := Flo.order_num Ieee.double _ _ lc.1 ld.1
  rw [show Flo.V Ieee.double (Op.Complex.abs c) = _ from lc.2, show Flo.V Ieee.double (Op.Complex.abs d) = _ from ld.2] at o
  unfold absGe
  rw [show FloatKind.f64.format = Ieee.double from rfl, Bool.or_eq_true, beq_iff_eq, beq_iff_eq, o.2.2, o.2.1]
  constructor
  · intro h; rcases h with h | h <;> grind
  · intro h; grind

theorem fA_some (op : BinOp) (a b : Nat) : fA op .f64 (some a) (some b) = floatBits op .f64 a b := rfl
theorem fab_num {x : Nat} (h : Flo.Nm x) : fab .f64 x = some x := fab_of_fin ((fin_iff .f64 x).2 h)
theorem fin_num {x : Nat} (h : Flo.Nm x) : fin .f64 x = true := (fin_iff .f64 x).2 h

/-- where the walk of the quotient's main road says so, the contract of DivideDouble says so -/
theorem divD_of_main (a b c d e f : Nat) (ha : Flo.Nm a) (hb : Flo.Nm b) (hc : Flo.Nm c) (hd : Flo.Nm d) (he : Flo.Nm e) (hf : Flo.Nm f)
    (hz : 0 < ra (Flo.W c) + ra (Flo.W d)) (h : cQuoBits a b c d = some (e, f)) : divD a b c d = some (e, f) := by
  have hq : qA a b c d = (some e, some f) := by
    unfold cQuoBits at h
    simp only at h
    obtain ⟨⟨e', f'⟩, hef, hfin⟩ := bind_some h
    simp only at hfin
    split at hfin
    · simp only [Option.some.injEq, Prod.mk.injEq] at hfin
      obtain ⟨rfl, rfl⟩ := hfin
      unfold qA
      split at hef
      · rename_i hge
        rw [if_pos hge]
        obtain ⟨r, h1, hef⟩ := bind_some hef
        obtain ⟨rd, h2, hef⟩ := bind_some hef
        obtain ⟨m, h3, hef⟩ := bind_some hef
        obtain ⟨br, h4, hef⟩ := bind_some hef
        obtain ⟨n1, h5, hef⟩ := bind_some hef
        obtain ⟨e', h6, hef⟩ := bind_some hef
        obtain ⟨ar, h7, hef⟩ := bind_some hef
        obtain ⟨n2, h8, hef⟩ := bind_some hef
        obtain ⟨f', h9, hef⟩ := bind_some hef
        simp only [Option.some.injEq, Prod.mk.injEq] at hef
        obtain ⟨rfl, rfl⟩ := hef
        simp only [fA_some, h1, h2, h3, h4, h5, h6, h7, h8, h9]
      · rename_i hge
        rw [if_neg hge]
        obtain ⟨r, h1, hef⟩ := bind_some hef
        obtain ⟨rd, h2, hef⟩ := bind_some hef
        obtain ⟨m, h3, hef⟩ := bind_some hef
        obtain ⟨br, h4, hef⟩ := bind_some hef
        obtain ⟨n1, h5, hef⟩ := bind_some hef
        obtain ⟨e', h6, hef⟩ := bind_some hef
        obtain ⟨ar, h7, hef⟩ := bind_some hef
        obtain ⟨n2, h8, hef⟩ := bind_some hef
        obtain ⟨f', h9, hef⟩ := bind_some hef
        simp only [Option.some.injEq, Prod.mk.injEq] at hef
        obtain ⟨rfl, rfl⟩ := hef
        simp only [fA_some, h1, h2, h3, h4, h5, h6, h7, h8, h9]
    · cases hfin
  have hz2 : ((FloatKind.f64.format.order c 0 == some .eq) && (FloatKind.f64.format.order d 0 == some .eq)) = false := by
    rw [Bool.and_eq_false_iff]
    have oc := (Flo.order_num Ieee.double c 0 hc zero_num.1).2.1
    have od := (Flo.order_num Ieee.double d 0 hd zero_num.1).2.1
    rw [show Flo.V Ieee.double 0 = 0 from zero_num.2] at oc od
    by_cases h0 : Flo.W c = 0
    · right
      have h1 : ¬ Flo.W d = 0 := by intro h1; rw [h0, h1] at hz; unfold ra at hz; grind
      have h2 : ¬ Ieee.double.order d 0 = some .eq := fun g => h1 (od.1 g)
      exact beq_eq_false_iff_ne.2 h2
    · left
      have h2 : ¬ Ieee.double.order c 0 = some .eq := fun g => h0 (oc.1 g)
      exact beq_eq_false_iff_ne.2 h2
  unfold divD
  rw [fin_num ha, fin_num hb, fin_num hc, fin_num hd, hz2, hq]
  simp [fin_num he, fin_num hf]

/-- the quotient of numbers of moderate size: with S the dividend's size, T the size's quotient by the divisor's greater part C -/
theorem quo_moderate (a b c d : Nat) (h1 : Moderate a b) (h2 : Moderate c d) :
    ∃ e f, divD a b c d = some (e, f) ∧ Flo.Nm e ∧ Flo.Nm f ∧ ∃ S T C : Rat, S = Flo.W (labs a) + Flo.W (labs b) ∧ T * C = S ∧ 0 < C ∧ Flo.Ab (Flo.W c) C ∧ Flo.Ab (Flo.W d) C ∧ Flo.Ab (Flo.W a) S ∧ Flo.Ab (Flo.W b) S ∧
      Flo.et ≤ Flo.u * (Flo.u * S) ∧ S ≤ Flo.pw 201 ∧ Flo.Ab (Flo.W e) (9 * T) ∧ Flo.Ab (Flo.W f) (9 * T) ∧
      Flo.Ab (Flo.W e * Flo.W c - Flo.W f * Flo.W d - Flo.W a) (124 * (Flo.u * S)) ∧ Flo.Ab (Flo.W e * Flo.W d + Flo.W f * Flo.W c - Flo.W b) (124 * (Flo.u * S)) := by
  obtain ⟨ax, bx, fa, fb, s1, s2, na', nb'⟩ := h1
  obtain ⟨cx, dx, fc, fd, t1, t2, nc', nd'⟩ := h2
  have na := Nm_of_fin fa
  have nb := Nm_of_fin fb
  have nc := Nm_of_fin fc
  have nd := Nm_of_fin fd
  rw [(labs_num a ax na).2, (labs_num b bx nb).2] at *
  rw [(labs_num c cx nc).2, (labs_num d dx nd).2] at t1 t2
  have a0 := ra_nonneg (Flo.W a)
  have b0 := ra_nonneg (Flo.W b)
  have c0 := ra_nonneg (Flo.W c)
  have d0 := ra_nonneg (Flo.W d)
  have haS : Flo.Ab (Flo.W a) (ra (Flo.W a) + ra (Flo.W b)) := (ra_ab _).mono (by grind)
  have hbS : Flo.Ab (Flo.W b) (ra (Flo.W a) + ra (Flo.W b)) := (ra_ab _).mono (by grind)
  generalize hS : ra (Flo.W a) + ra (Flo.W b) = S at *
  have p201 := Flo.pw_pos (-201)
  have hu : Flo.u = Flo.pw (-53) := rfl
  -- the greater part of the divisor
  have key : ∀ C : Rat, Flo.pw (-202) ≤ C → C ≤ Flo.pw 201 → ∃ T, T * C = S ∧ 0 < C ∧ 4 * C < Flo.pw 1023 ∧ 8 * S < Flo.pw 1022 ∧ 8 * T < Flo.pw 1022 ∧ Flo.et ≤ Flo.u * C ∧ Flo.et ≤ Flo.u * S ∧ Flo.et ≤ Flo.u * T ∧ Flo.et ≤ Flo.u * (Flo.u * S) := by
    intro C g1 g2
    have hC : 0 < C := by have := Flo.pw_pos (-202); grind
    have hT : S / C * C = S := by grind
    have u0 := Flo.u_pos
    have e1 : Flo.pw 203 = 4 * Flo.pw 201 := by rw [show (203 : Int) = 201 + 1 + 1 from rfl, Flo.pw_succ, Flo.pw_succ]; grind
    have e2 : Flo.pw 203 < Flo.pw 1023 := Flo.pw_lt (by omega)
    have e3 : Flo.pw 204 = 2 * Flo.pw 203 := by rw [show (204 : Int) = 203 + 1 from rfl, Flo.pw_succ]
    have e4 : Flo.pw 204 < Flo.pw 1022 := Flo.pw_lt (by omega)
    have e5 : Flo.pw 406 = 8 * Flo.pw 403 := by rw [show (406 : Int) = 403 + 1 + 1 + 1 from rfl, Flo.pw_succ, Flo.pw_succ, Flo.pw_succ]; grind
    have e6 : Flo.pw 406 < Flo.pw 1022 := Flo.pw_lt (by omega)
    have t3 : S / C ≤ Flo.pw 403 := by
      have : S / C * C ≤ Flo.pw 403 * C := by
        rw [hT]
        have k1 := Rat.mul_le_mul_of_nonneg_left g1 (Rat.le_of_lt (Flo.pw_pos 403))
        rw [← Flo.pw_add, show (403 + -202 : Int) = 201 from rfl] at k1
        grind
      exact Rat.le_of_mul_le_mul_right this hC
    have t4 : Flo.pw (-402) ≤ S / C := by
      have : Flo.pw (-402) * C ≤ S / C * C := by
        rw [hT]
        have k1 := Rat.mul_le_mul_of_nonneg_left g2 (Rat.le_of_lt (Flo.pw_pos (-402)))
        rw [← Flo.pw_add, show (-402 + 201 : Int) = -201 from rfl] at k1
        grind
      exact Rat.le_of_mul_le_mul_right this hC
    refine ⟨S / C, hT, hC, by grind, by grind, by grind, ?_, ?_, ?_, ?_⟩
    · have k1 := Rat.mul_le_mul_of_nonneg_left g1 (Rat.le_of_lt u0)
      rw [hu, ← Flo.pw_add] at k1
      have k2 : Flo.pw (-1074) ≤ Flo.pw (-53 + -202) := Flo.pw_le (by omega)
      unfold Flo.et; rw [hu]; grind
    · have k1 := Rat.mul_le_mul_of_nonneg_left s1 (Rat.le_of_lt u0)
      rw [hu, ← Flo.pw_add] at k1
      have k2 : Flo.pw (-1074) ≤ Flo.pw (-53 + -201) := Flo.pw_le (by omega)
      unfold Flo.et; rw [hu]; grind
    · have k1 := Rat.mul_le_mul_of_nonneg_left t4 (Rat.le_of_lt u0)
      rw [hu, ← Flo.pw_add] at k1
      have k2 : Flo.pw (-1074) ≤ Flo.pw (-53 + -402) := Flo.pw_le (by omega)
      unfold Flo.et; rw [hu]; grind
    · have k1 := Rat.mul_le_mul_of_nonneg_left s1 (Rat.le_of_lt u0)
      have k3 := Rat.mul_le_mul_of_nonneg_left k1 (Rat.le_of_lt u0)
      rw [hu, ← Flo.pw_add, ← Flo.pw_add] at k3
      have k2 : Flo.pw (-1074) ≤ Flo.pw (-53 + (-53 + -201)) := Flo.pw_le (by omega)
      unfold Flo.et; rw [hu]; grind
  have e202 : Flo.pw (-201) = 2 * Flo.pw (-202) := by rw [← Flo.pw_succ]; rfl
  cases hge : absGe c d with
  | true =>
    have hle := (absGe_iff c d nc nd).1 hge
    obtain ⟨T, hT, hC, k1, k2, k3, k4, k5, k6, k7⟩ := key (ra (Flo.W c)) (by grind) (by grind)
    obtain ⟨e, f, q1, q2, q3, q4, q5, q6, q7⟩ := Flo.quo_ge a b c d na nb nc nd S T _ (ra_or _) hC k1 ((ra_ab _).mono hle) haS hbS k2 hT k3 k4 k5 k6 hge
    exact ⟨e, f, divD_of_main a b c d e f na nb nc nd q2 q3 (by grind) q1, q2, q3, S, T, _, rfl, hT, hC, ra_ab _, (ra_ab _).mono hle, haS, hbS, k7, s2, q4, q5, q6, q7⟩
  | false =>
    have hlt : ra (Flo.W c) ≤ ra (Flo.W d) := by
      have : ¬ ra (Flo.W d) ≤ ra (Flo.W c) := fun g => by rw [(absGe_iff c d nc nd).2 g] at hge; cases hge
      grind
    obtain ⟨T, hT, hC, k1, k2, k3, k4, k5, k6, k7⟩ := key (ra (Flo.W d)) (by grind) (by grind)
    obtain ⟨e, f, q1, q2, q3, q4, q5, q6, q7⟩ := Flo.quo_lt a b c d na nb nc nd S T _ (ra_or _) hC k1 ((ra_ab _).mono hlt) haS hbS k2 hT k3 k4 k5 k6 hge
    exact ⟨e, f, divD_of_main a b c d e f na nb nc nd q2 q3 (by grind) q1, q2, q3, S, T, _, rfl, hT, hC, (ra_ab _).mono hlt, ra_ab _, haS, hbS, k7, s2, q4, q5, q6, q7⟩

/-- a product of a quotient's parts with the divisor's, each rounded, and their sum: in units of 'u S' -/
theorem part_ok (e c f d : Nat) (he : Flo.Nm e) (hc : Flo.Nm c) (hf : Flo.Nm f) (hd : Flo.Nm d) (S T C : Rat) (hT : T * C = S)
    (hcC : Flo.Ab (Flo.W c) C) (hdC : Flo.Ab (Flo.W d) C) (heT : Flo.Ab (Flo.W e) (9 * T)) (hfT : Flo.Ab (Flo.W f) (9 * T)) (hS : S ≤ Flo.pw 201) (het : Flo.et ≤ Flo.u * (Flo.u * S)) (hS0 : 0 ≤ S) :
    ∃ x y, floatBits .mul .f64 e c = some x ∧ floatBits .mul .f64 f d = some y ∧ Flo.Nm x ∧ Flo.Nm y ∧ Flo.Ab (Flo.W x - Flo.W e * Flo.W c) (10 * (Flo.u * S)) ∧ Flo.Ab (Flo.W y - Flo.W f * Flo.W d) (10 * (Flo.u * S)) ∧
      Flo.Ab (Flo.W x) (10 * S) ∧ Flo.Ab (Flo.W y) (10 * S) := by
  have u0 := Flo.u_pos
  have u1 := Flo.u_le
  have hbig : 32 * Flo.pw 201 < Flo.pw 1023 := by
    have e1 : Flo.pw 206 = 32 * Flo.pw 201 := by rw [show (206 : Int) = 5 + 201 from rfl, Flo.pw_add, show Flo.pw 5 = 32 from Flo.pw_nat 5]
    have e2 : Flo.pw 206 < Flo.pw 1023 := Flo.pw_lt (by omega)
    grind
  have huS : Flo.u * S ≤ S / 1048576 := by
    have := Rat.mul_le_mul_of_nonneg_right u1 hS0; grind
  have huS0 := Rat.mul_nonneg (Rat.le_of_lt u0) hS0
  have huuS : Flo.u * (Flo.u * S) ≤ (Flo.u * S) / 1048576 := by
    have := Rat.mul_le_mul_of_nonneg_right u1 huS0; grind
  have m1 : Flo.Ab (Flo.W e * Flo.W c) (9 * S) := (heT.mul hcC).mono (by rw [← hT]; grind)
  have m2 : Flo.Ab (Flo.W f * Flo.W d) (9 * S) := (hfT.mul hdC).mono (by rw [← hT]; grind)
  obtain ⟨x, x1, x2, x3⟩ := Flo.d_mul e c he hc (9 * S) m1 (by grind)
  obtain ⟨y, y1, y2, y3⟩ := Flo.d_mul f d hf hd (9 * S) m2 (by grind)
  have x3' : Flo.Ab (Flo.W x - Flo.W e * Flo.W c) (10 * (Flo.u * S)) := x3.mono (by grind)
  have y3' : Flo.Ab (Flo.W y - Flo.W f * Flo.W d) (10 * (Flo.u * S)) := y3.mono (by grind)
  exact ⟨x, y, x1, y1, x2, y2, x3', y3', ((x3'.add m1).eq (by grind)).mono (by grind), ((y3'.add m2).eq (by grind)).mono (by grind)⟩

/-- what is left of a part, measured: in units of 'u S' -/
theorem rest_ok (p a : Nat) (hp : Flo.Nm p) (ha : Flo.Nm a) (hp64 : p < 2 ^ 64) (S : Rat) (k : Rat) (hk0 : 0 ≤ k) (hk : k ≤ 1000) (h : Flo.Ab (Flo.W p - Flo.W a) (k * (Flo.u * S))) (hS : S ≤ Flo.pw 201) (het : Flo.et ≤ Flo.u * (Flo.u * S)) (hS0 : 0 ≤ S) :
    ∃ d, floatBits .sub .f64 p a = some d ∧ d < 2 ^ 64 ∧ Flo.Nm d ∧ Flo.Nm (labs d) ∧ 0 ≤ Flo.W (labs d) ∧ Flo.W (labs d) ≤ (k + 1) * (Flo.u * S) := by
  have u0 := Flo.u_pos
  have u1 := Flo.u_le
  have huS0 := Rat.mul_nonneg (Rat.le_of_lt u0) hS0
  have huS : Flo.u * S ≤ S / 1048576 := by
    have := Rat.mul_le_mul_of_nonneg_right u1 hS0; grind
  have huuS : Flo.u * (Flo.u * S) ≤ (Flo.u * S) / 1048576 := by
    have := Rat.mul_le_mul_of_nonneg_right u1 huS0; grind
  have huuS0 := Rat.mul_nonneg (Rat.le_of_lt u0) huS0
  have hk1 := Rat.mul_le_mul_of_nonneg_right hk huS0
  have hk2 := Rat.mul_le_mul_of_nonneg_right hk huuS0
  have hbig : Flo.pw 201 < Flo.pw 1023 := Flo.pw_lt (by omega)
  obtain ⟨d, d1, d2, d3⟩ := Flo.d_sub p a hp ha _ h (by grind)
  have hd64 : d < 2 ^ 64 := by have := floatBits_wf d1; simpa [Lit.wf] using this
  have l := labs_num d hd64 d2
  have hb : Flo.Ab (Flo.W d) ((k + 1) * (Flo.u * S)) := ((d3.add h).eq (show Flo.W d - (Flo.W p - Flo.W a) + (Flo.W p - Flo.W a) = Flo.W d by grind)).mono (by grind)
  exact ⟨d, d1, hd64, d2, l.1, by rw [l.2]; exact ra_nonneg _, by rw [l.2]; exact ra_le hb⟩

/-- what is left of the dividend, measured: at most 340 units of 'u S' -/
theorem diff_ok (a b c d e f p q : Nat) (h1 : Moderate a b) (h2 : Moderate c d) (hdiv : divD a b c d = some (e, f))
    (hp : fab .f64 p = mulRe (fab .f64 e) (fab .f64 f) (fab .f64 c) (fab .f64 d)) (hq : fab .f64 q = mulIm (fab .f64 e) (fab .f64 f) (fab .f64 c) (fab .f64 d)) (hp64 : p < 2 ^ 64) (hq64 : q < 2 ^ 64) :
    ∃ d1 d2 s, floatBits .sub .f64 p a = some d1 ∧ floatBits .sub .f64 q b = some d2 ∧ floatBits .add .f64 (labs d1) (labs d2) = some s ∧ Flo.Nm s ∧ Flo.W s ≤ 340 * (Flo.u * (Flo.W (labs a) + Flo.W (labs b))) := by
  obtain ⟨e', f', hdiv', ne, nf, S, T, C, hS, hT, hC, hcC, hdC, haS, hbS, het, hS201, heT, hfT, g1, g2⟩ := quo_moderate a b c d h1 h2
  rw [hdiv] at hdiv'
  simp only [Option.some.injEq, Prod.mk.injEq] at hdiv'
  obtain ⟨rfl, rfl⟩ := hdiv'
  obtain ⟨ax, bx, fa, fb, s1, s2, nla, nlb⟩ := h1
  obtain ⟨cx, dx, fc, fd, -, -, -, -⟩ := h2
  have na := Nm_of_fin fa
  have nb := Nm_of_fin fb
  have nc := Nm_of_fin fc
  have nd := Nm_of_fin fd
  have u0 := Flo.u_pos
  have u1 := Flo.u_le
  have hS0 : 0 ≤ S := haS.nonneg
  have huS0 := Rat.mul_nonneg (Rat.le_of_lt u0) hS0
  have huS : Flo.u * S ≤ S / 1048576 := by
    have := Rat.mul_le_mul_of_nonneg_right u1 hS0; grind
  have huuS : Flo.u * (Flo.u * S) ≤ (Flo.u * S) / 1048576 := by
    have := Rat.mul_le_mul_of_nonneg_right u1 huS0; grind
  have hbig : 32 * Flo.pw 201 < Flo.pw 1023 := by
    have e1 : Flo.pw 206 = 32 * Flo.pw 201 := by rw [show (206 : Int) = 5 + 201 from rfl, Flo.pw_add, show Flo.pw 5 = 32 from Flo.pw_nat 5]
    have e2 : Flo.pw 206 < Flo.pw 1023 := Flo.pw_lt (by omega)
    grind
  have et0 := Flo.et_pos
  -- the two parts of the product
  obtain ⟨x, y, x1, y1, x2, y2, x3, y3, x4, y4⟩ := part_ok e c f d ne nc nf nd S T C hT hcC hdC heT hfT hS201 het hS0
  obtain ⟨v, z, v1, z1, v2, z2, v3, z3, v4, z4⟩ := part_ok e d f c ne nd nf nc S T C hT hdC hcC heT hfT hS201 het hS0
  obtain ⟨p', p1, p2, p3⟩ := Flo.d_sub x y x2 y2 (20 * S) ((x4.sub y4).mono (by grind)) (by grind)
  obtain ⟨q', q1, q2, q3⟩ := Flo.d_add v z v2 z2 (20 * S) ((v4.add z4).mono (by grind)) (by grind)
  have ep : p = p' := by
    rw [fab_num ne, fab_num nf, fab_num nc, fab_num nd] at hp
    unfold mulRe at hp
    rw [fA_some, fA_some, x1, y1, fA_some, p1, ← fab_num p2] at hp
    rw [fab_num p2] at hp
    unfold fab at hp
    split at hp
    · cases hp
    · simpa using hp
  have eq : q = q' := by
    rw [fab_num ne, fab_num nf, fab_num nc, fab_num nd] at hq
    unfold mulIm at hq
    rw [fA_some, fA_some, v1, z1, fA_some, q1, ← fab_num q2] at hq
    rw [fab_num q2] at hq
    unfold fab at hq
    split at hq
    · cases hq
    · simpa using hq
  subst ep eq
  have P : Flo.Ab (Flo.W p - Flo.W a) (166 * (Flo.u * S)) := (((p3.add (x3.sub y3)).add g1).eq (by grind)).mono (by grind)
  have Q : Flo.Ab (Flo.W q - Flo.W b) (166 * (Flo.u * S)) := (((q3.add (v3.add z3)).add g2).eq (by grind)).mono (by grind)
  obtain ⟨d1, i1, i2, i3, i4, i5, i6⟩ := rest_ok p a p2 na hp64 S 166 (by grind) (by grind) P hS201 het hS0
  obtain ⟨d2, j1, j2, j3, j4, j5, j6⟩ := rest_ok q b q2 nb hq64 S 166 (by grind) (by grind) Q hS201 het hS0
  obtain ⟨s, r1, r2, r3⟩ := Flo.d_add (labs d1) (labs d2) i4 j4 (334 * (Flo.u * S)) ⟨by grind, by grind⟩ (by grind)
  refine ⟨d1, d2, s, i1, j1, r1, r2, ?_⟩
  rw [← hS]
  unfold Flo.Ab at r3
  grind

/-- THE LAW's TEST OF THE QUOTIENT. -/
theorem small_ok (a b c d e f p q k : Nat) (w1 w2 w3 w4 : World) (h1 : Moderate a b) (h2 : Moderate c d) (hdiv : divD a b c d = some (e, f))
    (hp : fab .f64 p = mulRe (fab .f64 e) (fab .f64 f) (fab .f64 c) (fab .f64 d)) (hq : fab .f64 q = mulIm (fab .f64 e) (fab .f64 f) (fab .f64 c) (fab .f64 d)) (hp64 : p < 2 ^ 64) (hq64 : q < 2 ^ 64)
    (hk : Flo.Nm k) (hk44 : Flo.W k = Flo.pw (-((44 : Nat) : Int))) :
    (FloatKind.f64.format.order (fres w3 .add .f64 (labs (fres w1 .sub .f64 p a)) (labs (fres w2 .sub .f64 q b))) (fres w4 .mul .f64 (szd a b) k) == some .lt ||
      FloatKind.f64.format.order (fres w3 .add .f64 (labs (fres w1 .sub .f64 p a)) (labs (fres w2 .sub .f64 q b))) (fres w4 .mul .f64 (szd a b) k) == some .eq) = true := by
  obtain ⟨d1, d2, s, i1, j1, r1, r2, hhigh⟩ := diff_ok a b c d e f p q h1 h2 hdiv hp hq hp64 hq64
  obtain ⟨ax, bx, fa, fb, s1, s2, nla, nlb⟩ := h1
  have na := Nm_of_fin fa
  have nb := Nm_of_fin fb
  have u0 := Flo.u_pos
  have u1 := Flo.u_le
  have p201 := Flo.pw_pos (-201)
  generalize hS : Flo.W (labs a) + Flo.W (labs b) = S at *
  have hS0 : 0 ≤ S := by grind
  have huS0 := Rat.mul_nonneg (Rat.le_of_lt u0) hS0
  have huS : Flo.u * S ≤ S / 1048576 := by
    have := Rat.mul_le_mul_of_nonneg_right u1 hS0; grind
  have huuS : Flo.u * (Flo.u * S) ≤ (Flo.u * S) / 1048576 := by
    have := Rat.mul_le_mul_of_nonneg_right u1 huS0; grind
  have het : Flo.et ≤ Flo.u * (Flo.u * S) := by
    have k1 := Rat.mul_le_mul_of_nonneg_left s1 (Rat.le_of_lt u0)
    have k3 := Rat.mul_le_mul_of_nonneg_left k1 (Rat.le_of_lt u0)
    rw [show Flo.u = Flo.pw (-53) from rfl, ← Flo.pw_add, ← Flo.pw_add] at k3
    have k2 : Flo.pw (-1074) ≤ Flo.pw (-53 + (-53 + -201)) := Flo.pw_le (by omega)
    unfold Flo.et; rw [show Flo.u = Flo.pw (-53) from rfl]; grind
  have hbig : 32 * Flo.pw 201 < Flo.pw 1023 := by
    have e1 : Flo.pw 206 = 32 * Flo.pw 201 := by rw [show (206 : Int) = 5 + 201 from rfl, Flo.pw_add, show Flo.pw 5 = 32 from Flo.pw_nat 5]
    have e2 : Flo.pw 206 < Flo.pw 1023 := Flo.pw_lt (by omega)
    grind
  have et0 := Flo.et_pos
  -- the bound
  have hsz := szd_eq a b ax bx na nb
  obtain ⟨sz, o1, o2, o3⟩ := Flo.d_add (labs a) (labs b) nla nlb S ⟨by rw [hS]; grind, by rw [hS]; exact Rat.le_refl⟩ (by grind)
  rw [hsz] at o1
  simp only [Option.some.injEq] at o1
  rw [o1] at *
  rw [hS] at o3
  have e44 : Flo.W k = 512 * Flo.u := by
    rw [hk44, show (-((44 : Nat) : Int)) = 9 + -53 from rfl, Flo.pw_add, show Flo.pw 9 = 512 from Flo.pw_nat 9]; rfl
  have hkA : Flo.Ab (Flo.W k) (512 * Flo.u) := by rw [e44]; unfold Flo.Ab; grind
  have hszA : Flo.Ab (Flo.W sz) (2 * S) := ((o3.add (show Flo.Ab S S from ⟨by grind, by grind⟩)).eq (show Flo.W sz - S + S = Flo.W sz by grind)).mono (by grind)
  obtain ⟨k', t1, t2, t3⟩ := Flo.d_mul sz k o2 hk (2 * S * (512 * Flo.u)) (hszA.mul hkA) (by grind)
  have hlow : 500 * (Flo.u * S) ≤ Flo.W k' := by
    rw [e44] at t3
    have m1 : S - 2 * (Flo.u * S) ≤ Flo.W sz := by unfold Flo.Ab at o3; grind
    have m2 := Rat.mul_le_mul_of_nonneg_right m1 (show (0 : Rat) ≤ 512 * Flo.u by grind)
    unfold Flo.Ab at t3
    grind
  have fr1 : fres w1 .sub .f64 p a = d1 := by unfold fres; rw [i1]
  have fr2 : fres w2 .sub .f64 q b = d2 := by unfold fres; rw [j1]
  have fr3 : fres w3 .add .f64 (labs d1) (labs d2) = s := by unfold fres; rw [r1]
  have fr4 : fres w4 .mul .f64 sz k = k' := by unfold fres; rw [t1]
  rw [fr1, fr2, fr3, fr4, show FloatKind.f64.format = Ieee.double from rfl, Bool.or_eq_true, beq_iff_eq, beq_iff_eq]
  have o := Flo.order_num Ieee.double s k' r2 t2
  rw [o.1, o.2.1]
  show Flo.W s < Flo.W k' ∨ Flo.W s = Flo.W k'
  have : Flo.W s ≤ Flo.W k' := by grind
  grind

end Go.Proofs.YtjmignhcfmdcaaaDoor
