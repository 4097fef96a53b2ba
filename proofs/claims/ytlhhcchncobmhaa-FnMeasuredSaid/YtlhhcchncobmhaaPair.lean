/- Plain: complex numbers whose parts are whole numbers times a power of two; the quotient of such numbers, near what it is.
   Conditions: those that each statement names. -/
import Derived.Test.YtlhhcchncobmhaaPairZ
import Derived.Test.YtlhhcchncobmhaaPole
namespace Go.Proofs.Ytlhhcchncobmhaa
set_option linter.unusedSimpArgs false
set_option linter.unusedVariables false
open Go Go.RowKit

/-- a complex number whose parts are n times 2^e -/
def DyC (e : Int) (n : Int × Int) (z : Nat × Nat) : Prop := Flo.Dy e n.1 z.1 ∧ Flo.Dy e n.2 z.2
theorem DyC.fab {e : Int} {n : Int × Int} {z : Nat × Nat} (h : DyC e n z) : fabC z = (some z.1, some z.2) := by
  unfold fabC; rw [fab_num h.1.1, fab_num h.2.1]
theorem fab_some_eq {x b : Nat} (h : fab .f64 x = some b) : x = b := by
  unfold Go.Proofs.Ytlhhcchncobmhaa.fab at h
  split at h
  · cases h
  · simpa using h
def Small2 (n : Int × Int) (B : Nat) : Prop := n.1.natAbs ≤ B ∧ n.2.natAbs ≤ B
/-- the product, exact -/
theorem dyC_mul {e f : Int} {m n : Int × Int} {x y : Nat × Nat} (hx : DyC e m x) (hy : DyC f n y) (B C : Nat) (hB : Small2 m B) (hC : Small2 n C) (h : 2 * (B * C) < 9007199254740992) (he : -1000 ≤ e + f) (he2 : e + f ≤ 900) :
    ∃ z : Nat × Nat, mulC (fabC x) (fabC y) = (some z.1, some z.2) ∧ DyC (e + f) (gmz m n) z := by
  obtain ⟨-, -, b1, b2, b3, b4⟩ := gm_le m n B C hB hC
  have b0 := gm_le m n B C hB hC
  obtain ⟨r1, p1, q1⟩ := Flo.dy_mul hx.1 hy.1 (by omega) (by omega) (by omega)
  obtain ⟨r2, p2, q2⟩ := Flo.dy_mul hx.2 hy.2 (by omega) (by omega) (by omega)
  obtain ⟨r3, p3, q3⟩ := Flo.dy_mul hx.1 hy.2 (by omega) (by omega) (by omega)
  obtain ⟨r4, p4, q4⟩ := Flo.dy_mul hx.2 hy.1 (by omega) (by omega) (by omega)
  obtain ⟨u, u1, u2⟩ := Flo.dy_sub q1 q2 (by omega) (by omega) (by omega)
  obtain ⟨v, v1, v2⟩ := Flo.dy_add q3 q4 (by omega) (by omega) (by omega)
  refine ⟨(u, v), ?_, u2, v2⟩
  rw [hx.fab, hy.fab]
  unfold mulC mulRe mulIm
  simp only [fA_some, p1, p2, p3, p4, u1, v1]
theorem dyC_add {e : Int} {m n : Int × Int} {x y : Nat × Nat} (hx : DyC e m x) (hy : DyC e n y) (B : Nat) (hB : Small2 (ga m n) B) (h : B < 9007199254740992) (he : -1000 ≤ e) (he2 : e ≤ 900) :
    ∃ z : Nat × Nat, floatBits .add .f64 x.1 y.1 = some z.1 ∧ floatBits .add .f64 x.2 y.2 = some z.2 ∧ DyC e (ga m n) z := by
  obtain ⟨u, u1, u2⟩ := Flo.dy_add hx.1 hy.1 (by have := hB.1; unfold ga at this; simp only at this; omega) (by omega) (by omega)
  obtain ⟨v, v1, v2⟩ := Flo.dy_add hx.2 hy.2 (by have := hB.2; unfold ga at this; simp only at this; omega) (by omega) (by omega)
  exact ⟨(u, v), u1, v1, u2, v2⟩
theorem dyC_sub {e : Int} {m n : Int × Int} {x y : Nat × Nat} (hx : DyC e m x) (hy : DyC e n y) (B : Nat) (hB : Small2 (gs m n) B) (h : B < 9007199254740992) (he : -1000 ≤ e) (he2 : e ≤ 900) :
    ∃ z : Nat × Nat, floatBits .sub .f64 x.1 y.1 = some z.1 ∧ floatBits .sub .f64 x.2 y.2 = some z.2 ∧ DyC e (gs m n) z := by
  obtain ⟨u, u1, u2⟩ := Flo.dy_sub hx.1 hy.1 (by have := hB.1; unfold gs at this; simp only at this; omega) (by omega) (by omega)
  obtain ⟨v, v1, v2⟩ := Flo.dy_sub hx.2 hy.2 (by have := hB.2; unfold gs at this; simp only at this; omega) (by omega) (by omega)
  exact ⟨(u, v), u1, v1, u2, v2⟩

/-- what the quotient's error is: (e - s)(c, d) = E, parts -/
theorem quo_rest (x y c d E F C K : Rat) (hC : 0 < C) (hcd : (c = C ∨ c = -C) ∨ (d = C ∨ d = -C)) (hc : Flo.Ab c C) (hd : Flo.Ab d C) (h1 : x * c - y * d = E) (h2 : x * d + y * c = F) (hE : Flo.Ab E (K * C)) (hF : Flo.Ab F (K * C)) : Flo.Ab x (2 * K) ∧ Flo.Ab y (2 * K) := by
  have hn : x * (c * c + d * d) = E * c + F * d := by rw [← h1, ← h2]; grind
  have hm : y * (c * c + d * d) = F * c - E * d := by rw [← h1, ← h2]; grind
  have hCC : 0 < C * C := Rat.mul_pos hC hC
  have cc : 0 ≤ c * c := by
    rcases Rat.le_total (a := 0) (b := c) with g | g
    · exact Rat.mul_nonneg g g
    · have := Rat.mul_nonneg (show 0 ≤ -c by grind) (show 0 ≤ -c by grind); grind
  have dd : 0 ≤ d * d := by
    rcases Rat.le_total (a := 0) (b := d) with g | g
    · exact Rat.mul_nonneg g g
    · have := Rat.mul_nonneg (show 0 ≤ -d by grind) (show 0 ≤ -d by grind); grind
  have hN : C * C ≤ c * c + d * d := by
    rcases hcd with (h | h) | (h | h) <;> rw [h] <;> grind
  have b1 : Flo.Ab (E * c + F * d) (2 * K * (C * C)) := ((hE.mul hc).add (hF.mul hd)).mono (by grind)
  have b2 : Flo.Ab (F * c - E * d) (2 * K * (C * C)) := ((hF.mul hc).sub (hE.mul hd)).mono (by grind)
  exact ⟨Flo.Ab.div (y := c * c + d * d) (D := C * C) (by rw [hn]; exact b1) hCC hN, Flo.Ab.div (y := c * c + d * d) (D := C * C) (by rw [hm]; exact b2) hCC hN⟩

theorem dy_abs {e n : Int} {b : Nat} (h : Flo.Dy e n b) : ra (Flo.W b) = ((n.natAbs : Nat) : Rat) * Flo.pw e := by
  have p := Flo.pw_pos e
  rw [h.2, Flo.natAbs_rat]
  unfold ra
  by_cases hn : n < 0
  · have h1 : (n : Rat) < 0 := by exact_mod_cast hn
    have := Rat.mul_pos (show 0 < -(n : Rat) by grind) p
    rw [if_pos hn, if_pos (by grind)]; grind
  · have h1 : 0 ≤ (n : Rat) := by exact_mod_cast (show (0 : Int) ≤ n by omega)
    have := Rat.mul_nonneg h1 (Rat.le_of_lt p)
    rw [if_neg hn, if_neg (by grind)]
/-- a part that is at most 2 -/
theorem dy_two {k n : Int} (hk : -40 ≤ k) (hk0 : k ≤ 0) (h : (n.natAbs : Int) ≤ 2 * 2 ^ (-k).toNat) : Flo.Ab ((n : Rat) * Flo.pw k) 2 := by
  have p := Flo.pw_pos k
  obtain ⟨j, rfl⟩ : ∃ j : Nat, k = -(j : Int) := ⟨(-k).toNat, by omega⟩
  rw [show (-(-(j : Int))).toNat = j from by omega] at h
  have hm := Flo.pw_neg_mul j
  rw [Flo.pw_nat] at hm
  have h1 : ((n.natAbs : Nat) : Rat) ≤ 2 * ((2 ^ j : Nat) : Rat) := by
    have : ((n.natAbs : Nat) : Int) ≤ ((2 * 2 ^ j : Nat) : Int) := by push_cast; exact h
    have h2 : n.natAbs ≤ 2 * 2 ^ j := by exact_mod_cast this
    have h3 : ((n.natAbs : Nat) : Rat) ≤ ((2 * 2 ^ j : Nat) : Rat) := by exact_mod_cast h2
    push_cast at h3 ⊢
    exact h3
  have h2 := Rat.mul_le_mul_of_nonneg_right h1 (Rat.le_of_lt p)
  rw [Flo.natAbs_rat] at h2
  unfold Flo.Ab
  split at h2
  · rename_i hn
    have h3 : (n : Rat) < 0 := by exact_mod_cast hn
    have := Rat.mul_pos (show 0 < -(n : Rat) by grind) p
    constructor <;> grind
  · rename_i hn
    have h3 : 0 ≤ (n : Rat) := by exact_mod_cast (show (0 : Int) ≤ n by omega)
    have := Rat.mul_nonneg h3 (Rat.le_of_lt p)
    constructor <;> grind

/-- THE QUOTIENT, near what it is -/
theorem quo_near (ed k : Int) (n d s : Int × Int) (N D : Nat × Nat) (hed : -100 ≤ ed) (hed2 : ed ≤ 100) (hk : -40 ≤ k) (hk0 : k ≤ 0) (hN : DyC (ed + k) n N) (hD : DyC ed d D) (hn : n = gmz d s) (hd0 : d ≠ (0, 0)) (hd : Small2 d 9007199254740992)
    (hs1 : (s.1.natAbs : Int) ≤ 2 * 2 ^ (-k).toNat) (hs2 : (s.2.natAbs : Int) ≤ 2 * 2 ^ (-k).toNat) :
    ∃ e f, divD N.1 N.2 D.1 D.2 = some (e, f) ∧ Flo.Nm e ∧ Flo.Nm f ∧ Flo.Ab (Flo.W e - (s.1 : Rat) * Flo.pw k) (992 * Flo.u) ∧ Flo.Ab (Flo.W f - (s.2 : Rat) * Flo.pw k) (992 * Flo.u) := by
  have u0 := Flo.u_pos
  have u1 := Flo.u_le
  have t1 := dy_two hk hk0 hs1
  have t2 := dy_two hk hk0 hs2
  generalize hq1 : (s.1 : Rat) * Flo.pw k = q1 at *
  generalize hq2 : (s.2 : Rat) * Flo.pw k = q2 at *
  have w1 : Flo.W N.1 = Flo.W D.1 * q1 - Flo.W D.2 * q2 := by
    rw [hN.1.2, hD.1.2, hD.2.2, hn, ← hq1, ← hq2, Flo.pw_add]
    unfold gmz
    push_cast
    grind
  have w2 : Flo.W N.2 = Flo.W D.1 * q2 + Flo.W D.2 * q1 := by
    rw [hN.2.2, hD.1.2, hD.2.2, hn, ← hq1, ← hq2, Flo.pw_add]
    unfold gmz
    push_cast
    grind
  have a1 := dy_abs hD.1
  have a2 := dy_abs hD.2
  have ped := Flo.pw_pos ed
  -- what a part that is not 0 is
  have key : ∀ m : Int, m.natAbs ≤ 9007199254740992 → m ≠ 0 → ∀ C, C = ((m.natAbs : Nat) : Rat) * Flo.pw ed → 0 < C ∧ 32 * C < Flo.pw 1022 ∧ Flo.et ≤ Flo.u * C := by
    intro m h1 h0 C hC
    have h2 : (1 : Rat) ≤ ((m.natAbs : Nat) : Rat) := by exact_mod_cast (show 1 ≤ m.natAbs by omega)
    have h3 : ((m.natAbs : Nat) : Rat) ≤ Flo.pw 53 := by
      rw [show Flo.pw 53 = ((2 ^ 53 : Nat) : Rat) from Flo.pw_nat 53]
      exact_mod_cast (show m.natAbs ≤ 2 ^ 53 by omega)
    have h4 := Rat.mul_le_mul_of_nonneg_right h2 (Rat.le_of_lt ped)
    have h5 := Rat.mul_le_mul_of_nonneg_right h3 (Rat.le_of_lt ped)
    rw [← Flo.pw_add, ← hC] at h5
    rw [← hC] at h4
    have h6 : Flo.pw (53 + ed) ≤ Flo.pw 153 := Flo.pw_le (by omega)
    have h7 : 32 * Flo.pw 153 < Flo.pw 1022 := by
      have e1 : Flo.pw 158 = 32 * Flo.pw 153 := by rw [show (158 : Int) = 5 + 153 from rfl, Flo.pw_add, show Flo.pw 5 = 32 from Flo.pw_nat 5]
      have e2 : Flo.pw 158 < Flo.pw 1022 := Flo.pw_lt (by omega)
      grind
    have h8 : Flo.pw (-100) ≤ Flo.pw ed := Flo.pw_le (by omega)
    have h9 : Flo.et ≤ Flo.u * Flo.pw (-100) := by
      rw [show Flo.u = Flo.pw (-53) from rfl, ← Flo.pw_add]
      exact Flo.pw_le (by omega)
    have h10 := Rat.mul_le_mul_of_nonneg_left (show Flo.pw (-100) ≤ C by grind) (Rat.le_of_lt u0)
    exact ⟨by grind, by grind, by grind⟩
  have p4 : (8 : Rat) * 4 < Flo.pw 1022 := by
    have e1 : Flo.pw 6 < Flo.pw 1022 := Flo.pw_lt (by omega)
    rw [show Flo.pw 6 = 64 from Flo.pw_nat 6] at e1
    grind
  have p5 : Flo.pw 1022 < Flo.pw 1023 := Flo.pw_lt (by omega)
  have p6 : Flo.et ≤ Flo.u * 4 := by
    have : Flo.et ≤ Flo.u := Flo.pw_le (by omega)
    grind
  have fin_ : ∀ C e f, 0 < C → ((Flo.W D.1 = C ∨ Flo.W D.1 = -C) ∨ (Flo.W D.2 = C ∨ Flo.W D.2 = -C)) → Flo.Ab (Flo.W D.1) C → Flo.Ab (Flo.W D.2) C →
      Flo.Ab (Flo.W e * Flo.W D.1 - Flo.W f * Flo.W D.2 - Flo.W N.1) (124 * (Flo.u * (4 * C))) → Flo.Ab (Flo.W e * Flo.W D.2 + Flo.W f * Flo.W D.1 - Flo.W N.2) (124 * (Flo.u * (4 * C))) →
      Flo.Ab (Flo.W e - q1) (992 * Flo.u) ∧ Flo.Ab (Flo.W f - q2) (992 * Flo.u) := by
    intro C e f hC hcd hc hd g1 g2
    have r := quo_rest (Flo.W e - q1) (Flo.W f - q2) (Flo.W D.1) (Flo.W D.2) (Flo.W e * Flo.W D.1 - Flo.W f * Flo.W D.2 - Flo.W N.1) (Flo.W e * Flo.W D.2 + Flo.W f * Flo.W D.1 - Flo.W N.2) C (496 * Flo.u) hC hcd hc hd (by rw [w1]; grind) (by rw [w2]; grind) (g1.mono (by grind)) (g2.mono (by grind))
    exact ⟨r.1.mono (by grind), r.2.mono (by grind)⟩
  have hsum : 0 < ra (Flo.W D.1) + ra (Flo.W D.2) := by
    have b1 := ra_nonneg (Flo.W D.1)
    have b2 := ra_nonneg (Flo.W D.2)
    by_cases h1 : d.1 = 0
    · have h2 : d.2 ≠ 0 := fun h2 => hd0 (Prod.ext h1 h2)
      have := (key d.2 hd.2 h2 _ a2).1
      grind
    · have := (key d.1 hd.1 h1 _ a1).1
      grind
  cases hge : absGe D.1 D.2 with
  | true =>
    have hle := (absGe_iff D.1 D.2 hD.1.1 hD.2.1).1 hge
    have h1 : d.1 ≠ 0 := by
      intro h1
      rw [h1] at a1
      simp at a1
      have b2 := ra_nonneg (Flo.W D.2)
      grind
    obtain ⟨k1, k2, k3⟩ := key d.1 hd.1 h1 _ a1
    have hc := ra_ab (Flo.W D.1)
    have hdc : Flo.Ab (Flo.W D.2) (ra (Flo.W D.1)) := (ra_ab (Flo.W D.2)).mono hle
    generalize hCq : ra (Flo.W D.1) = C at *
    obtain ⟨e, f, v1, v2, v3, -, -, v4, v5⟩ := Flo.quo_ge N.1 N.2 D.1 D.2 hN.1.1 hN.2.1 hD.1.1 hD.2.1 (4 * C) 4 C (by rw [← hCq]; exact ra_or _) k1 (by grind) hdc
      (by rw [w1]; exact ((hc.mul t1).sub (hdc.mul t2)).mono (by grind)) (by rw [w2]; exact ((hc.mul t2).add (hdc.mul t1)).mono (by grind)) (by grind) rfl p4 k3 (by have k4 := Rat.mul_nonneg (Rat.le_of_lt u0) (Rat.le_of_lt k1); clear key fin_; grind) p6 hge
    obtain ⟨g1, g2⟩ := fin_ C e f k1 (.inl (by rw [← hCq]; exact ra_or _)) hc hdc v4 v5
    exact ⟨e, f, divD_of_main _ _ _ _ _ _ hN.1.1 hN.2.1 hD.1.1 hD.2.1 v2 v3 (by rw [hCq]; exact hsum) v1, v2, v3, g1, g2⟩
  | false =>
    have hlt : ra (Flo.W D.1) ≤ ra (Flo.W D.2) := by
      have : ¬ ra (Flo.W D.2) ≤ ra (Flo.W D.1) := fun g => by rw [(absGe_iff D.1 D.2 hD.1.1 hD.2.1).2 g] at hge; cases hge
      grind
    have h1 : d.2 ≠ 0 := by
      intro h1
      rw [h1] at a2
      simp at a2
      have b2 := ra_nonneg (Flo.W D.1)
      grind
    obtain ⟨k1, k2, k3⟩ := key d.2 hd.2 h1 _ a2
    have hd' := ra_ab (Flo.W D.2)
    have hcd : Flo.Ab (Flo.W D.1) (ra (Flo.W D.2)) := (ra_ab (Flo.W D.1)).mono hlt
    generalize hCq : ra (Flo.W D.2) = C at *
    obtain ⟨e, f, v1, v2, v3, -, -, v4, v5⟩ := Flo.quo_lt N.1 N.2 D.1 D.2 hN.1.1 hN.2.1 hD.1.1 hD.2.1 (4 * C) 4 C (by rw [← hCq]; exact ra_or _) k1 (by grind) hcd
      (by rw [w1]; exact ((hcd.mul t1).sub (hd'.mul t2)).mono (by grind)) (by rw [w2]; exact ((hcd.mul t2).add (hd'.mul t1)).mono (by grind)) (by grind) rfl p4 k3 (by have k4 := Rat.mul_nonneg (Rat.le_of_lt u0) (Rat.le_of_lt k1); clear key fin_; grind) p6 hge
    obtain ⟨g1, g2⟩ := fin_ C e f k1 (.inr (by rw [← hCq]; exact ra_or _)) hcd hd' v4 v5
    exact ⟨e, f, divD_of_main _ _ _ _ _ _ hN.1.1 hN.2.1 hD.1.1 hD.2.1 v2 v3 (by rw [hCq]; exact hsum) v1, v2, v3, g1, g2⟩

/-- THE LAW's TEST of a number that is near: at most 2^-40 away -/
theorem small_near (a b c d : Nat) (x y : Rat) (ha : Flo.Nm a) (hb : Flo.Nm b) (hc : Flo.Nm c) (hd : Flo.Nm d) (hx : Flo.W c = x) (hy : Flo.W d = y) (h1 : Flo.Ab (Flo.W a - x) (1000 * Flo.u)) (h2 : Flo.Ab (Flo.W b - y) (1000 * Flo.u)) (w1 w2 w3 : World) :
    (FloatKind.f64.format.order (fres w3 .add .f64 (labs (fres w1 .sub .f64 a c)) (labs (fres w2 .sub .f64 b d))) (powB 40) == some .lt ||
      FloatKind.f64.format.order (fres w3 .add .f64 (labs (fres w1 .sub .f64 a c)) (labs (fres w2 .sub .f64 b d))) (powB 40) == some .eq) = true := by
  have u0 := Flo.u_pos
  have u1 := Flo.u_le
  have het : Flo.et ≤ Flo.u * Flo.u := by
    rw [show Flo.u = Flo.pw (-53) from rfl, ← Flo.pw_add]
    exact Flo.pw_le (by omega)
  have huu : Flo.u * Flo.u ≤ Flo.u / 1048576 := by
    have := Rat.mul_le_mul_of_nonneg_right u1 (Rat.le_of_lt u0); grind
  have hbig : (1 : Rat) < Flo.pw 1023 := by rw [← Flo.pw_zero]; exact Flo.pw_lt (by omega)
  obtain ⟨r, r1, r2, r3⟩ := Flo.d_sub a c ha hc (1000 * Flo.u) (by rw [hx]; exact h1) (by grind)
  obtain ⟨s, s1, s2, s3⟩ := Flo.d_sub b d hb hd (1000 * Flo.u) (by rw [hy]; exact h2) (by grind)
  rw [hx] at r3
  rw [hy] at s3
  have rr : Flo.Ab (Flo.W r) (1001 * Flo.u) := ((r3.add h1).eq (show Flo.W r - (Flo.W a - x) + (Flo.W a - x) = Flo.W r by grind)).mono (by grind)
  have ss : Flo.Ab (Flo.W s) (1001 * Flo.u) := ((s3.add h2).eq (show Flo.W s - (Flo.W b - y) + (Flo.W b - y) = Flo.W s by grind)).mono (by grind)
  have lr := labs_num r (floatBits_wf' r1) r2
  have ls := labs_num s (floatBits_wf' s1) s2
  have br := ra_le rr
  have bs := ra_le ss
  have nr := ra_nonneg (Flo.W r)
  have ns := ra_nonneg (Flo.W s)
  obtain ⟨t, t1, t2, t3⟩ := Flo.d_add (labs r) (labs s) lr.1 ls.1 (2002 * Flo.u) (by rw [lr.2, ls.2]; exact ⟨by grind, by grind⟩) (by grind)
  have hk := powB_ok 40 (by omega)
  have e40 : Flo.W (powB 40) = 8192 * Flo.u := by
    rw [hk.2, show (-((40 : Nat) : Int)) = 13 + -53 from rfl, Flo.pw_add, show Flo.pw 13 = 8192 from Flo.pw_nat 13]; rfl
  have fr1 : fres w1 .sub .f64 a c = r := by unfold fres; rw [r1]
  have fr2 : fres w2 .sub .f64 b d = s := by unfold fres; rw [s1]
  have fr3 : fres w3 .add .f64 (labs r) (labs s) = t := by unfold fres; rw [t1]
  rw [fr1, fr2, fr3, show FloatKind.f64.format = Ieee.double from rfl, Bool.or_eq_true, beq_iff_eq, beq_iff_eq]
  have o := Flo.order_num Ieee.double t (powB 40) t2 hk.1
  rw [o.1, o.2.1]
  rw [lr.2, ls.2] at t3
  show Flo.W t < Flo.W (powB 40) ∨ Flo.W t = Flo.W (powB 40)
  left
  rw [e40]
  unfold Flo.Ab at t3
  grind

end Go.Proofs.Ytlhhcchncobmhaa
