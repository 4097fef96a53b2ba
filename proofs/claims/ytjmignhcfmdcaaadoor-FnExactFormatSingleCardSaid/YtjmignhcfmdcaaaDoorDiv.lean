/- Plain facts on numbers of double precision: the quotient of complex numbers, its steps, and how near its product with the divisor lies to the dividend. No program stands in it.
   Conditions: those that each statement names. -/
import Derived.Test.YtjmignhcfmdcaaaDoorFlo
import Derived.Laws.ComplexQuo
namespace Go.Proofs.YtjmignhcfmdcaaaDoor
set_option linter.unusedSimpArgs false
set_option linter.unusedVariables false
namespace Flo
open Ieee

def Ab (x B : Rat) : Prop := -B ≤ x ∧ x ≤ B
theorem Ab.nonneg {x B : Rat} (h : Ab x B) : 0 ≤ B := by unfold Ab at h; grind
theorem Ab.add {x y B D : Rat} (h : Ab x B) (g : Ab y D) : Ab (x + y) (B + D) := by unfold Ab at *; grind
theorem Ab.sub {x y B D : Rat} (h : Ab x B) (g : Ab y D) : Ab (x - y) (B + D) := by unfold Ab at *; grind
theorem Ab.neg {x B : Rat} (h : Ab x B) : Ab (-x) B := by unfold Ab at *; grind
theorem Ab.mono {x B D : Rat} (h : Ab x B) (g : B ≤ D) : Ab x D := by unfold Ab at *; grind
theorem Ab.eq {x y B : Rat} (h : Ab x B) (g : x = y) : Ab y B := g ▸ h
theorem Ab.mul {x y B D : Rat} (h : Ab x B) (g : Ab y D) : Ab (x * y) (B * D) := by
  have hB := h.nonneg
  have hD := g.nonneg
  unfold Ab at *
  obtain ⟨h1, h2⟩ := h
  obtain ⟨g1, g2⟩ := g
  have a1 := Rat.mul_nonneg (show 0 ≤ B - x by grind) (show 0 ≤ D - y by grind)
  have a2 := Rat.mul_nonneg (show 0 ≤ B + x by grind) (show 0 ≤ D + y by grind)
  have a3 := Rat.mul_nonneg (show 0 ≤ B - x by grind) (show 0 ≤ D + y by grind)
  have a4 := Rat.mul_nonneg (show 0 ≤ B + x by grind) (show 0 ≤ D - y by grind)
  constructor <;> grind
/-- a bound on a product, divided by what one factor is at least -/
theorem Ab.div {x y B D : Rat} (h : Ab (x * y) (B * D)) (hD : 0 < D) (g : D ≤ y) : Ab x B := by
  unfold Ab at *
  obtain ⟨h1, h2⟩ := h
  constructor
  · by_cases hx : x ≤ 0
    · have := Rat.mul_nonneg (show 0 ≤ -x by grind) (show 0 ≤ y - D by grind)
      have e : (-x) * D ≤ B * D := by grind
      have := Rat.le_of_mul_le_mul_right e hD
      grind
    · have h0 : 0 * D ≤ B * D := by grind
      have := Rat.le_of_mul_le_mul_right h0 hD
      grind
  · by_cases hx : 0 ≤ x
    · have := Rat.mul_nonneg hx (show 0 ≤ y - D by grind)
      have e : x * D ≤ B * D := by grind
      exact Rat.le_of_mul_le_mul_right e hD
    · have h0 : 0 * D ≤ B * D := by grind
      have := Rat.le_of_mul_le_mul_right h0 hD
      grind

/-! ### double precision -/
abbrev D := Ieee.double
abbrev Nm (b : Nat) : Prop := IsNum Ieee.double b
abbrev W (b : Nat) : Rat := V Ieee.double b
def u : Rat := pw (-53)
def et : Rat := pw (-1074)
theorem u_pos : 0 < u := pw_pos _
theorem et_pos : 0 < et := pw_pos _
theorem u_le : u ≤ 1 / 1048576 := by
  have h : pw (-53) ≤ pw (-20) := pw_le (by omega)
  have e : pw (-20) * pw 20 = 1 := pw_neg_mul 20
  have e2 : pw (20 : Nat) = ((2 ^ 20 : Nat) : Rat) := pw_nat 20
  have e3 : pw 20 = 1048576 := e2
  rw [e3] at e
  unfold u; grind
theorem top_double : top Ieee.double = 1023 := by decide
theorem lp_double : Ieee.double.leastPlace = -1074 := by decide
theorem fb_double : (Ieee.double.fractionBits : Int) = 52 := rfl
theorem err_eq (B : Rat) : (B * pw (-(Ieee.double.fractionBits : Int)) + pw Ieee.double.leastPlace) / 2 = B * u + et / 2 := by
  rw [lp_double, fb_double]
  have : pw (-52) = 2 * pw (-53) := by rw [← pw_succ]; rfl
  unfold u et
  rw [this]; grind

theorem d_add (x y : Nat) (hx : Nm x) (hy : Nm y) (B : Rat) (h : Ab (W x + W y) B) (hB : B < pw 1023) :
    ∃ r, floatBits .add .f64 x y = some r ∧ Nm r ∧ Ab (W r - (W x + W y)) (B * u + et) := by
  obtain ⟨r, h1, h2, h3⟩ := add_ok Ieee.double (by decide) x y hx hy B h.2 h.1 (by rw [top_double]; exact hB)
  rw [err_eq] at h3
  have := et_pos
  refine ⟨r, h1, h2, ?_⟩
  unfold Near at h3; unfold Ab W; grind
theorem d_sub (x y : Nat) (hx : Nm x) (hy : Nm y) (B : Rat) (h : Ab (W x - W y) B) (hB : B < pw 1023) :
    ∃ r, floatBits .sub .f64 x y = some r ∧ Nm r ∧ Ab (W r - (W x - W y)) (B * u + et) := by
  obtain ⟨r, h1, h2, h3⟩ := sub_ok Ieee.double (by decide) x y hx hy B h.2 h.1 (by rw [top_double]; exact hB)
  rw [err_eq] at h3
  have := et_pos
  refine ⟨r, h1, h2, ?_⟩
  unfold Near at h3; unfold Ab W; grind
theorem d_mul (x y : Nat) (hx : Nm x) (hy : Nm y) (B : Rat) (h : Ab (W x * W y) B) (hB : B < pw 1023) :
    ∃ r, floatBits .mul .f64 x y = some r ∧ Nm r ∧ Ab (W r - W x * W y) (B * u + et) := by
  obtain ⟨r, h1, h2, h3⟩ := mul_ok Ieee.double (by decide) x y hx hy B h.2 h.1 (by rw [top_double]; exact hB)
  rw [err_eq] at h3
  have := et_pos
  refine ⟨r, h1, h2, ?_⟩
  unfold Near at h3; unfold Ab W; grind
theorem d_div (x y : Nat) (hx : Nm x) (hy : Nm y) (hy0 : W y ≠ 0) (q B : Rat) (hq : q * W y = W x) (h : Ab q B) (hB : B < pw 1022) :
    ∃ r, floatBits .quo .f64 x y = some r ∧ Nm r ∧ Ab (W r - q) (4 * (B * u) + et) := by
  obtain ⟨r, h1, h2, h3⟩ := div_ok Ieee.double (by decide) x y hx hy hy0 q B hq h.2 h.1 (by
    rw [top_double, show (1023 : Int) = 1022 + 1 from rfl, pw_succ]; grind)
  rw [lp_double, fb_double] at h3
  have e : pw (-52) = 2 * pw (-53) := by rw [← pw_succ]; rfl
  rw [e] at h3
  refine ⟨r, h1, h2, ?_⟩
  unfold Near at h3; unfold Ab W u et; grind

/-! ### Smith's quotient, in exact numbers with bounded errors -/
/-- The two numerators and the denominator: what is left of the dividend. All bounds in units of 'u'. -/
theorem smith (x y c d r m n1 n2 e f q1 q2 S T : Rat) (hc : 0 < c) (hd : Ab d c) (hx : Ab x S) (hy : Ab y S) (hT : T * c = S)
    (hr : Ab (r * c - d) (5 * (u * c))) (hm : Ab (m - (c + r * d)) (8 * (u * c))) (hm2 : c / 2 ≤ m)
    (h1 : Ab (n1 - (x + y * r)) (8 * (u * S))) (h2 : Ab (n2 - (y - x * r)) (8 * (u * S)))
    (hq1 : q1 * m = n1) (hq2 : q2 * m = n2) (he : Ab (e - q1) (33 * (u * T))) (hf : Ab (f - q2) (33 * (u * T))) :
    Ab (e * c - f * d - x) (124 * (u * S)) ∧ Ab (e * d + f * c - y) (124 * (u * S)) := by
  have hcc : Ab c c := by unfold Ab; grind
  have hc2 : (0 : Rat) < c / 2 := by grind
  have hk : 58 * (u * S) + (33 * (u * T) * c + 33 * (u * T) * c) ≤ 124 * (u * S) := by rw [← hT]; clear hr hm h1 h2 he hf hd hx hy; grind
  -- first part
  have a1 : Ab ((q1 * c - q2 * d - x) * m) ((58 * (u * S)) * (c / 2)) := by
    have b1 := (hx.mul hm.neg).add (hy.mul hr)
    have b2 := (h1.mul hcc).sub (h2.mul hd)
    have b3 := b1.add b2
    refine (b3.eq ?_).mono ?_
    · grind
    · grind
  have a2 : Ab ((q1 * d + q2 * c - y) * m) ((58 * (u * S)) * (c / 2)) := by
    have b1 := (hy.mul hm.neg).sub (hx.mul hr)
    have b2 := (h1.mul hd).add (h2.mul hcc)
    have b3 := b1.add b2
    refine (b3.eq ?_).mono ?_
    · grind
    · grind
  have a1 := a1.div hc2 hm2
  have a2 := a2.div hc2 hm2
  have e1 := (he.mul hcc).sub (hf.mul hd)
  have e2 := (he.mul hd).add (hf.mul hcc)
  constructor
  · exact ((a1.add e1).eq (by clear a1 a2 e1 e2 he hf h1 h2 hr hm hd hx hy; grind)).mono hk
  · exact ((a2.add e2).eq (by clear a1 a2 e1 e2 he hf h1 h2 hr hm hd hx hy; grind)).mono hk

/-- the same where 'c' may be negative: 'C' is its absolute value -/
theorem smith' (x y c d r m n1 n2 e f q1 q2 S T C : Rat) (hcC : c = C ∨ c = -C) (hc : 0 < C) (hd : Ab d C) (hx : Ab x S) (hy : Ab y S) (hT : T * C = S)
    (hr : Ab (r * c - d) (5 * (u * C))) (hm : Ab (m - (c + r * d)) (8 * (u * C))) (hm2 : (c = C ∧ C / 2 ≤ m) ∨ (c = -C ∧ C / 2 ≤ -m))
    (h1 : Ab (n1 - (x + y * r)) (8 * (u * S))) (h2 : Ab (n2 - (y - x * r)) (8 * (u * S)))
    (hq1 : q1 * m = n1) (hq2 : q2 * m = n2) (he : Ab (e - q1) (33 * (u * T))) (hf : Ab (f - q2) (33 * (u * T))) :
    Ab (e * c - f * d - x) (124 * (u * S)) ∧ Ab (e * d + f * c - y) (124 * (u * S)) := by
  rcases hm2 with ⟨hcp, hm3⟩ | ⟨hcp, hm3⟩
  · subst hcp
    exact smith x y c d r m n1 n2 e f q1 q2 S T hc hd hx hy hT hr hm hm3 h1 h2 hq1 hq2 he hf
  · subst hcp
    have := smith x y C (-d) r (-m) n1 n2 (-e) (-f) (-q1) (-q2) S T hc hd.neg hx hy hT (hr.neg.eq (show -(r * -C - d) = r * C - -d by grind)) (hm.neg.eq (show -(m - (-C + r * d)) = -m - (C + r * -d) by grind)) hm3 h1 h2
      (show -q1 * -m = n1 by grind) (show -q2 * -m = n2 by grind) (he.neg.eq (show -(e - q1) = -e - -q1 by grind)) (hf.neg.eq (show -(f - q2) = -f - -q2 by grind))
    exact ⟨this.1.eq (by grind), this.2.eq (by grind)⟩

theorem ratio_ok (c d : Nat) (hc : Nm c) (hd : Nm d) (C : Rat) (hcC : W c = C ∨ W c = -C) (hC : 0 < C) (hdC : Ab (W d) C) :
    ∃ r, floatBits .quo .f64 d c = some r ∧ Nm r ∧ Ab (W r * W c - W d) (5 * (u * C)) ∧ Ab (W r) 2 := by
  have hc0 : W c ≠ 0 := by rcases hcC with h | h <;> rw [h] <;> grind
  have hq : (W d / W c) * W c = W d := by grind
  have hq1 : Ab (W d / W c) 1 := by
    rcases hcC with h | h
    · have : Ab ((W d / W c) * W c) (1 * C) := (hdC.eq hq.symm).mono (by grind)
      rw [h] at this
      have := this.div hC Rat.le_refl
      rwa [← h] at this
    · have : Ab ((W d / W c) * (-W c)) (1 * C) := (hdC.neg.eq (by grind)).mono (by grind)
      exact this.div hC (by grind)
  have hb : (1 : Rat) < pw 1022 := by
    have := pw_lt (a := 0) (b := 1022) (by omega); rwa [pw_zero] at this
  obtain ⟨r, h1, h2, h3⟩ := d_div d c hd hc hc0 _ 1 hq hq1 hb
  have hu := u_pos
  have hu1 := u_le
  have hetu : et ≤ u := pw_le (by omega)
  have hcA : Ab (W c) C := by unfold Ab; rcases hcC with h | h <;> rw [h] <;> grind
  refine ⟨r, h1, h2, ?_, ?_⟩
  · have := h3.mul hcA
    refine (this.eq (y := W r * W c - W d) (by grind)).mono ?_
    have := Rat.mul_le_mul_of_nonneg_right hetu (Rat.le_of_lt hC)
    grind
  · exact ((h3.add hq1).eq (by grind)).mono (by grind)

theorem denom_ok (c d r : Nat) (hc : Nm c) (hd : Nm d) (hr : Nm r) (C : Rat) (hcC : W c = C ∨ W c = -C) (hC : 0 < C) (hCt : 4 * C < pw 1023) (hdC : Ab (W d) C) (het : et ≤ u * C)
    (hrc : Ab (W r * W c - W d) (5 * (u * C))) (hr2 : Ab (W r) 2) :
    ∃ rd m, floatBits .mul .f64 r d = some rd ∧ floatBits .add .f64 c rd = some m ∧ Nm m ∧ Ab (W m - (W c + W r * W d)) (8 * (u * C)) ∧ ((W c = C ∧ C / 2 ≤ W m) ∨ (W c = -C ∧ C / 2 ≤ -W m)) := by
  have hu := u_pos
  have hu1 := u_le
  have hcA : Ab (W c) C := by unfold Ab; rcases hcC with h | h <;> rw [h] <;> grind
  have huC : u * C ≤ C / 1048576 := by
    have := Rat.mul_le_mul_of_nonneg_right hu1 (Rat.le_of_lt hC); grind
  have hrd := hr2.mul hdC
  obtain ⟨rd, h1, h2, h3⟩ := d_mul r d hr hd (2 * C) hrd (by grind)
  have h3' : Ab (W rd - W r * W d) (3 * (u * C)) := h3.mono (by grind)
  have hs : Ab (W c + W rd) (4 * C) := ((hcA.add (h3'.add hrd)).eq (by grind)).mono (by grind)
  obtain ⟨m, g1, g2, g3⟩ := d_add c rd hc h2 (4 * C) hs hCt
  have g3' : Ab (W m - (W c + W rd)) (5 * (u * C)) := g3.mono (by grind)
  have hm : Ab (W m - (W c + W r * W d)) (8 * (u * C)) := ((g3'.add h3').eq (by grind)).mono (by grind)
  refine ⟨rd, m, h1, g1, g2, hm, ?_⟩
  have hdd : 0 ≤ W d * W d := by
    rcases Rat.le_total (a := 0) (b := W d) with h | h
    · exact Rat.mul_nonneg h h
    · have := Rat.mul_nonneg (show 0 ≤ -W d by grind) (show 0 ≤ -W d by grind); grind
  have hx := hrc.mul hdC
  rcases hcC with h | h
  · left
    refine ⟨h, ?_⟩
    have k : (0 - 5 * (u * C)) * C ≤ (W r * W d) * C := by unfold Ab at hx; rw [h] at hx; grind
    have := Rat.le_of_mul_le_mul_right k hC
    unfold Ab at hm; grind
  · right
    refine ⟨h, ?_⟩
    have k : (0 - 5 * (u * C)) * C ≤ (-(W r * W d)) * C := by unfold Ab at hx; rw [h] at hx; grind
    have := Rat.le_of_mul_le_mul_right k hC
    unfold Ab at hm; grind

theorem prod_ok (y r : Nat) (hy : Nm y) (hr : Nm r) (S : Rat) (hyS : Ab (W y) S) (hSt : 8 * S < pw 1022) (het : et ≤ u * S) (hr2 : Ab (W r) 2) :
    ∃ p, floatBits .mul .f64 y r = some p ∧ Nm p ∧ Ab (W p - W y * W r) (3 * (u * S)) ∧ Ab (W p) (3 * S) := by
  have hu1 := u_le
  have hS := hyS.nonneg
  have huS : u * S ≤ S / 1048576 := by
    have := Rat.mul_le_mul_of_nonneg_right hu1 hS; grind
  have hp := hyS.mul hr2
  have h10 := pw_lt (a := 1022) (b := 1023) (by omega)
  obtain ⟨p, h1, h2, h3⟩ := d_mul y r hy hr (S * 2) hp (by grind)
  have h3' : Ab (W p - W y * W r) (3 * (u * S)) := h3.mono (by grind)
  exact ⟨p, h1, h2, h3', ((h3'.add hp).eq (by grind)).mono (by grind)⟩

theorem quot_ok (n m : Nat) (hn : Nm n) (hm : Nm m) (S T C : Rat) (hC : 0 < C) (hT : T * C = S) (hTt : 8 * T < pw 1022) (het : et ≤ u * T) (hnS : Ab (W n) (4 * S)) (hmC : C / 2 ≤ W m ∨ C / 2 ≤ -W m) :
    ∃ e, floatBits .quo .f64 n m = some e ∧ Nm e ∧ ∃ q : Rat, q * W m = W n ∧ Ab (W e - q) (33 * (u * T)) ∧ Ab (W e) (9 * T) := by
  have hu1 := u_le
  have hC2 : 0 < C / 2 := by grind
  have hm0 : W m ≠ 0 := by rcases hmC with h | h <;> grind
  have hq : (W n / W m) * W m = W n := by grind
  have hq1 : Ab (W n / W m) (8 * T) := by
    rcases hmC with h | h
    · have : Ab ((W n / W m) * W m) ((8 * T) * (C / 2)) := (hnS.eq hq.symm).mono (by rw [← hT]; grind)
      exact this.div hC2 h
    · have : Ab ((W n / W m) * (-W m)) ((8 * T) * (C / 2)) := (hnS.neg.eq (show -W n = (W n / W m) * (-W m) by grind)).mono (by rw [← hT]; grind)
      exact this.div hC2 h
  have hT0 : 0 ≤ T := by have := hq1.nonneg; grind
  have huT : u * T ≤ T / 1048576 := by
    have := Rat.mul_le_mul_of_nonneg_right hu1 hT0; grind
  obtain ⟨e, h1, h2, h3⟩ := d_div n m hn hm hm0 _ _ hq hq1 hTt
  have h3' : Ab (W e - W n / W m) (33 * (u * T)) := h3.mono (by grind)
  exact ⟨e, h1, h2, _, hq, h3', ((h3'.add hq1).eq (by grind)).mono (by grind)⟩

theorem num_le (x y r n : Rat) (S : Rat) (hx : Ab x S) (hy : Ab y S) (hr : Ab r 2) (h : Ab (n - (x + y * r)) (8 * (u * S))) : Ab n (4 * S) := by
  have hu1 := u_le
  have hS := hx.nonneg
  have huS : u * S ≤ S / 1048576 := by
    have := Rat.mul_le_mul_of_nonneg_right hu1 hS; grind
  exact ((h.add (hx.add (hy.mul hr))).eq (show n - (x + y * r) + (x + y * r) = n by grind)).mono (by grind)

theorem Nm_not_nan {e : Nat} (h : Nm e) : Op.Complex.isNaN e = false := by
  obtain ⟨s, m, p, h⟩ := h
  unfold Op.Complex.isNaN FloatKind.decode
  rw [show FloatKind.f64.format = Ieee.double from rfl, h]; rfl

/-- THE QUOTIENT OF MODERATE NUMBERS: it is valid, finite, and its product with the divisor is near the dividend. -/
theorem quo_ge (a b c d : Nat) (ha : Nm a) (hb : Nm b) (hc : Nm c) (hd : Nm d) (S T C : Rat) (hcC : W c = C ∨ W c = -C) (hC : 0 < C) (hCt : 4 * C < pw 1023) (hdC : Ab (W d) C)
    (haS : Ab (W a) S) (hbS : Ab (W b) S) (hSt : 8 * S < pw 1022) (hT : T * C = S) (hTt : 8 * T < pw 1022) (heC : et ≤ u * C) (heS : et ≤ u * S) (heT : et ≤ u * T) (hge : absGe c d = true) :
    ∃ e f, cQuoBits a b c d = some (e, f) ∧ Nm e ∧ Nm f ∧ Ab (W e) (9 * T) ∧ Ab (W f) (9 * T) ∧ Ab (W e * W c - W f * W d - W a) (124 * (u * S)) ∧ Ab (W e * W d + W f * W c - W b) (124 * (u * S)) := by
  have h10 := pw_lt (a := 1022) (b := 1023) (by omega)
  have hS := haS.nonneg
  have huS : u * S ≤ S / 1048576 := by
    have := Rat.mul_le_mul_of_nonneg_right u_le hS; grind
  obtain ⟨r, r1, r2, r3, r4⟩ := ratio_ok c d hc hd C hcC hC hdC
  obtain ⟨rd, m, m1, m2, m3, m4, m5⟩ := denom_ok c d r hc hd r2 C hcC hC hCt hdC heC r3 r4
  obtain ⟨br, p1, p2, p3, p4⟩ := prod_ok b r hb r2 S hbS hSt heS r4
  obtain ⟨ar, q1, q2, q3, q4⟩ := prod_ok a r ha r2 S haS hSt heS r4
  obtain ⟨n1, s1, s2, s3⟩ := d_add a br ha p2 (4 * S) ((haS.add p4).mono (by grind)) (by grind)
  obtain ⟨n2, t1, t2, t3⟩ := d_sub b ar hb q2 (4 * S) ((hbS.sub q4).mono (by grind)) (by grind)
  have s3' : Ab (W n1 - (W a + W b * W r)) (8 * (u * S)) := ((s3.add p3).eq (by grind)).mono (by grind)
  have t3' : Ab (W n2 - (W b - W a * W r)) (8 * (u * S)) := ((t3.sub q3).eq (by grind)).mono (by grind)
  have mm : C / 2 ≤ W m ∨ C / 2 ≤ -W m := by rcases m5 with h | h; exact .inl h.2; exact .inr h.2
  have l1 := num_le _ _ _ _ S haS hbS r4 s3'
  have l2 := num_le _ (-W a) _ _ S hbS haS.neg r4 (t3'.eq (show W n2 - (W b - W a * W r) = W n2 - (W b + -W a * W r) by grind))
  obtain ⟨e, e1, e2, qe, e3, e4, e5⟩ := quot_ok n1 m s2 m3 S T C hC hT hTt heT l1 mm
  obtain ⟨f, f1, f2, qf, f3, f4, f5⟩ := quot_ok n2 m t2 m3 S T C hC hT hTt heT l2 mm
  refine ⟨e, f, ?_, e2, f2, e5, f5, smith' _ _ _ _ _ _ _ _ _ _ _ _ S T C hcC hC hdC haS hbS hT r3 m4 m5 s3' t3' e3 f3 e4 f4⟩
  unfold cQuoBits
  simp only [hge, if_true, r1, m1, m2, p1, q1, s1, t1, e1, f1, Option.bind_some, Nm_not_nan e2, Bool.false_and, Bool.not_false]

theorem quo_lt (a b c d : Nat) (ha : Nm a) (hb : Nm b) (hc : Nm c) (hd : Nm d) (S T C : Rat) (hdC : W d = C ∨ W d = -C) (hC : 0 < C) (hCt : 4 * C < pw 1023) (hcC : Ab (W c) C)
    (haS : Ab (W a) S) (hbS : Ab (W b) S) (hSt : 8 * S < pw 1022) (hT : T * C = S) (hTt : 8 * T < pw 1022) (heC : et ≤ u * C) (heS : et ≤ u * S) (heT : et ≤ u * T) (hge : absGe c d = false) :
    ∃ e f, cQuoBits a b c d = some (e, f) ∧ Nm e ∧ Nm f ∧ Ab (W e) (9 * T) ∧ Ab (W f) (9 * T) ∧ Ab (W e * W c - W f * W d - W a) (124 * (u * S)) ∧ Ab (W e * W d + W f * W c - W b) (124 * (u * S)) := by
  have h10 := pw_lt (a := 1022) (b := 1023) (by omega)
  have hS := haS.nonneg
  have huS : u * S ≤ S / 1048576 := by
    have := Rat.mul_le_mul_of_nonneg_right u_le hS; grind
  obtain ⟨r, r1, r2, r3, r4⟩ := ratio_ok d c hd hc C hdC hC hcC
  obtain ⟨rd, m, m1, m2, m3, m4, m5⟩ := denom_ok d c r hd hc r2 C hdC hC hCt hcC heC r3 r4
  obtain ⟨ar, p1, p2, p3, p4⟩ := prod_ok a r ha r2 S haS hSt heS r4
  obtain ⟨br, q1, q2, q3, q4⟩ := prod_ok b r hb r2 S hbS hSt heS r4
  obtain ⟨n1, s1, s2, s3⟩ := d_add ar b p2 hb (4 * S) ((p4.add hbS).mono (by grind)) (by grind)
  obtain ⟨n2, t1, t2, t3⟩ := d_sub br a q2 ha (4 * S) ((q4.sub haS).mono (by grind)) (by grind)
  have s3' : Ab (W n1 - (W b + W a * W r)) (8 * (u * S)) := ((s3.add p3).eq (by grind)).mono (by grind)
  have t3' : Ab (-W n2 - (W a - W b * W r)) (8 * (u * S)) := ((t3.add q3).neg.eq (by grind)).mono (by grind)
  have mm : C / 2 ≤ W m ∨ C / 2 ≤ -W m := by rcases m5 with h | h; exact .inl h.2; exact .inr h.2
  have l1 := num_le _ _ _ _ S hbS haS r4 s3'
  have l2 := num_le _ (-W b) _ _ S haS hbS.neg r4 (t3'.eq (show -W n2 - (W a - W b * W r) = -W n2 - (W a + -W b * W r) by grind))
  obtain ⟨e, e1, e2, qe, e3, e4, e5⟩ := quot_ok n1 m s2 m3 S T C hC hT hTt heT l1 mm
  obtain ⟨f, f1, f2, qf, f3, f4, f5⟩ := quot_ok n2 m t2 m3 S T C hC hT hTt heT (l2.neg.eq (show - -W n2 = W n2 by grind)) mm
  have key := smith' (W b) (W a) (W d) (W c) (W r) (W m) (W n1) (-W n2) (W e) (-W f) qe (-qf) S T C hdC hC hcC hbS haS hT r3 m4 m5 s3' t3' e3 (show -qf * W m = -W n2 by grind) e4 (f4.neg.eq (show -(W f - qf) = -W f - -qf by grind))
  refine ⟨e, f, ?_, e2, f2, e5, f5, key.2.eq (by grind), key.1.eq (by grind)⟩
  unfold cQuoBits
  simp only [hge, r1, m1, m2, p1, q1, s1, t1, e1, f1, Option.bind_some, Nm_not_nan e2, Bool.false_and, Bool.not_false, Bool.false_eq_true, if_false, if_true]

/-! ### halves and doubles are exact -/
theorem read_two : Ieee.double.read 4611686018427387904 = .number false 4503599627370496 (-51) := by decide
theorem half_exact (x : Nat) (s : Bool) (m : Nat) (p : Int) (h : Ieee.double.read x = .number s m p) (hp : -1074 < p) :
    ∃ r m' p', floatBits .quo .f64 x 4611686018427387904 = some r ∧ Ieee.double.read r = .number s m' p' ∧ (m' : Rat) * pw p' = (m : Rat) * pw (p - 1) := by
  obtain ⟨b1, b2, b3⟩ := read_bound Ieee.double (by decide) x s m p h
  have hm53 : m < 9007199254740992 := b1
  unfold floatBits Ieee.Format.div
  show ∃ r m' p', Option.map Ieee.double.write (Datum.quotient _ (Ieee.double.read x) (Ieee.double.read 4611686018427387904)) = some r ∧ _
  rw [h, read_two]
  by_cases hm : m = 0
  · subst hm
    simp only [Datum.quotient]
    rw [if_neg (by decide)]
    simp only [Nat.zero_shiftLeft, Nat.zero_div, Nat.zero_mod, bne_self_eq_false, Bool.toNat_false, Option.map_some, Bool.xor_false]
    refine ⟨_, 0, Ieee.double.leastPlace, rfl, ?_, by simp⟩
    show Ieee.double.read (Ieee.double.nearest s 0 _) = _
    unfold Format.nearest
    rw [if_pos rfl]
    exact zero_read Ieee.double s
  · have hl : m.log2 ≤ 52 := by
      have : m.log2 < 53 := (Nat.log2_lt hm).2 (by simpa using hm53)
      omega
    have hl2 : Nat.log2 4503599627370496 = 52 := by decide
    simp only [Datum.quotient]
    rw [if_neg (by decide), hl2]
    rw [show (FloatKind.f64.format.fractionBits + 2 + 52 - m.log2 : Nat) = 52 + (54 - m.log2) from by
      have : FloatKind.f64.format.fractionBits = 52 := rfl
      omega]
    generalize hk : 54 - m.log2 = k
    have e1 : m <<< (52 + k) = m * 2 ^ k * 4503599627370496 := by
      rw [Nat.shiftLeft_eq, Nat.add_comm, Nat.pow_add, Nat.mul_assoc]
    rw [e1, Nat.mul_div_cancel _ (by decide), Nat.mul_mod_left]
    simp only [bne_self_eq_false, Bool.toNat_false, Nat.add_zero, Option.map_some, Bool.xor_false]
    have hv : ((2 * (m * 2 ^ k) : Nat) : Rat) * pw (p - -51 - ((52 + k : Nat) : Int) - 1) = (m : Rat) * pw (p - 1) := by
      have e : pw (p - 1) = pw ((k + 1 : Nat) : Int) * pw (p - -51 - ((52 + k : Nat) : Int) - 1) := by rw [← pw_add]; congr 1; omega
      rw [e, pw_nat, Nat.pow_succ]
      push_cast
      grind
    have ht := (size_pw m (p - 1) hm).2
    have hp971 : p ≤ 971 := by
      rw [lp_double] at b3
      have : (2 ^ Ieee.double.exponentBits : Nat) = 2048 := by decide
      omega
    have h5 := pw_le (show p - 1 + (m.log2 : Int) + 1 ≤ 1023 by omega)
    obtain ⟨m', p', w1, w2, w3, w4⟩ := write_exact Ieee.double (by decide) s _ _ m (p - 1) hv b1 (by rw [lp_double]; omega) (by rw [hv, top_double]; grind)
    exact ⟨_, m', p', rfl, w1, by rw [w4, hv]⟩

/-- half of a positive power of two -/
theorem half_pw (x : Nat) (j : Nat) (hj : j ≤ 900) (hx : Nm x) (hv : W x = pw (-(j : Int))) :
    ∃ r, floatBits .quo .f64 x 4611686018427387904 = some r ∧ Nm r ∧ W r = pw (-((j + 1 : Nat) : Int)) := by
  obtain ⟨s, m, p, h⟩ := hx
  have b1 := (read_bound Ieee.double (by decide) x s m p h).1
  have hm53 : m < 9007199254740992 := b1
  rw [show W x = val s m p from V_eq h] at hv
  have hpos := pw_pos (-(j : Int))
  have hmp : 0 ≤ (m : Rat) * pw p := by
    have a1 : (0 : Rat) ≤ m := by exact_mod_cast Nat.zero_le m
    exact Rat.mul_nonneg a1 (Rat.le_of_lt (pw_pos p))
  have hs : s = false := by
    cases s
    · rfl
    · unfold val at hv; simp at hv; grind
  subst hs
  have hv' : (m : Rat) * pw p = pw (-(j : Int)) := by unfold val at hv; simp at hv; grind
  have hm0 : m ≠ 0 := by intro e; subst e; simp at hv'; grind
  have hl : m.log2 ≤ 52 := by
    have : m.log2 < 53 := (Nat.log2_lt hm0).2 (by simpa using hm53)
    omega
  have hp : -1074 < p := by
    have := (size_pw m p hm0).2
    rw [hv'] at this
    have := lt_of_pw_lt this
    omega
  obtain ⟨r, m', p', h1, h2, h3⟩ := half_exact x false m p h hp
  refine ⟨r, h1, ⟨_, _, _, h2⟩, ?_⟩
  rw [show W r = val false m' p' from V_eq h2]
  unfold val
  rw [h3]
  have e1 : pw p = 2 * pw (p - 1) := by rw [← pw_succ]; congr 1; omega
  have e2 : pw (-(j : Int)) = 2 * pw (-((j + 1 : Nat) : Int)) := by rw [← pw_succ]; congr 1; omega
  simp only [Bool.false_eq_true, if_false]
  grind

/-- a sum of numbers is valid: an infinity, or a number near the exact sum -/
theorem d_add_or (x y : Nat) (hx : Nm x) (hy : Nm y) (B : Rat) (h : Ab (W x + W y) B) :
    ∃ r, floatBits .add .f64 x y = some r ∧ ((∃ s, Ieee.double.read r = .infinity s) ∨ (Nm r ∧ Ab (W r - (W x + W y)) (B * u + et))) := by
  obtain ⟨s, m, i, hx⟩ := hx
  obtain ⟨t, n, j, hy⟩ := hy
  unfold W at *
  rw [V_eq hx, V_eq hy] at *
  obtain ⟨q, k, b, h3, h4⟩ := sum_val s t m n i j
  have e : floatBits .add .f64 x y = some (Ieee.double.write (.number q k b)) := by
    show Ieee.double.add x y = _
    unfold Format.add
    rw [hx, hy, h3]; rfl
  rw [← h4] at h ⊢
  refine ⟨_, e, ?_⟩
  rcases write_or Ieee.double (by decide) q k b B h.2 h.1 with g | ⟨g1, g2⟩
  · exact .inl ⟨_, g⟩
  · right
    rw [err_eq] at g2
    have := et_pos
    refine ⟨g1, ?_⟩
    unfold Near at g2; unfold Ab; grind

end Flo
end Go.Proofs.YtjmignhcfmdcaaaDoor
