/- Plain: a power by squares, near the power.
   Conditions: those that each statement names. -/
import Derived.Test.YtlhhcchncobmhaaFitC
namespace Go.Proofs.Ytlhhcchncobmhaa
set_option linter.unusedSimpArgs false
set_option linter.unusedVariables false
open Go Go.RowKit

def powZ (p : Nat × Nat) (m : Nat) : Nat × Nat :=
  if h : m = 0 then oneZ else
    if m % 2 = 1 then mulB (mulB (powZ p (m / 2)) (powZ p (m / 2))) p else mulB (powZ p (m / 2)) (powZ p (m / 2))
termination_by m
decreasing_by all_goals omega
def sqrZ (p : Nat × Nat) (m : Nat) : Nat × Nat := mulB (powZ p m) (powZ p m)
theorem powZ_zero (p : Nat × Nat) : powZ p 0 = oneZ := by rw [powZ]; rfl
theorem powZ_odd (p : Nat × Nat) (m : Nat) : powZ p (2 * m + 1) = mulB (sqrZ p m) p := by
  rw [powZ, dif_neg (by omega), if_pos (by omega), show (2 * m + 1) / 2 = m from by omega]
  rfl
theorem powZ_even (p : Nat × Nat) (m : Nat) (h : m ≠ 0) : powZ p (2 * m) = sqrZ p m := by
  rw [powZ, dif_neg (by omega), if_neg (by omega), show (2 * m) / 2 = m from by omega]
  rfl
/-- the numbers that a bound grows to, a round each -/
def cl : Nat → Rat
  | 0 => 0
  | l + 1 => 9 / 4 * cl l + 20
theorem rp_low {q : Rat} (h : 1 ≤ 33 * q) : ∀ k : Nat, Flo.pw (-6 * (k : Int)) ≤ rp q k
  | 0 => by simp [rp, Flo.pw_zero]
  | k + 1 => by
    have i := rp_low h k
    have e : Flo.pw (-6 * (k : Int)) = 64 * Flo.pw (-6 * ((k + 1 : Nat) : Int)) := by
      rw [show (64 : Rat) = Flo.pw 6 from (Flo.pw_nat 6).symm, ← Flo.pw_add]
      congr 1
      omega
    have p0 := Flo.pw_pos (-6 * (k : Int))
    have a := Rat.mul_le_mul_of_nonneg_left h (show 0 ≤ rp q k by grind)
    show _ ≤ rp q k * q
    grind
structure PowN (p : Nat × Nat) (m : Nat) (c : Rat) : Prop where
  ok : Okz (powZ p m)
  mid : Mid (powZ p m)
  err : Sz (Flo.W (powZ p m).1 - (exR (vz p) (1, 0) m).1) (Flo.W (powZ p m).2 - (exR (vz p) (1, 0) m).2) (c * Flo.u) (rp (nz p) m)
/-- neither too small nor too great: near a power of the pole -/
theorem pow_mid {p s : Nat × Nat} (F : Fair p s) (m : Nat) (hm : m ≤ 40) (z : Nat × Nat) (A : Rat) (hA : A ≤ 1 / 8) (h : Sz (Flo.W z.1 - (exR (vz p) (1, 0) m).1) (Flo.W z.2 - (exR (vz p) (1, 0) m).2) A (rp (nz p) m)) : Mid z ∧ nz z ≤ 9 / 8 * (9 / 8) * rp (nz p) m := by
  have h' := h
  rw [← exR_one_nz] at h'
  have l := sz_lower h' hA
  have g := (sz_upper h').mono (show 1 + A ≤ 9 / 8 by grind)
  rw [exR_one_nz] at l g
  have g2 := g.2.2
  rw [show Flo.W z.1 * Flo.W z.1 + Flo.W z.2 * Flo.W z.2 = nz z from rfl] at l g2
  have r1 := rp_low F.p1 m
  have r2 := rp_le (nz_nonneg p) F.p2 m (by omega)
  have r3 : (m : Rat) ≤ 40 := by have := natR_le hm; simpa using this
  have e1 : 2 * Flo.pw (-400) ≤ Flo.pw (-6 * (m : Int)) := by rw [← Flo.pw_succ]; exact Flo.pw_le (by omega)
  have e3 : Flo.pw 7 ≤ Flo.pw 400 := Flo.pw_le (by omega)
  rw [show Flo.pw 7 = 128 from Flo.pw_nat 7] at e3
  exact ⟨⟨by clear h h' g; grind, by clear h h' g; grind⟩, g2⟩
theorem sqr_near {p s : Nat × Nat} (F : Fair p s) (m : Nat) (hm : 2 * m ≤ 40) (c : Rat) (h0 : 0 ≤ c) (hc : c ≤ 1000) (h : PowN p m c) :
    mulC (fabC (powZ p m)) (fabC (powZ p m)) = (some (sqrZ p m).1, some (sqrZ p m).2) ∧ Okz (sqrZ p m) ∧ Mid (sqrZ p m) ∧ nz (sqrZ p m) ≤ 9 / 8 * (9 / 8) * rp (nz p) (2 * m) ∧
      Sz (Flo.W (sqrZ p m).1 - (exR (vz p) (1, 0) (2 * m)).1) (Flo.W (sqrZ p m).2 - (exR (vz p) (1, 0) (2 * m)).2) ((9 / 4 * c + 11) * Flo.u) (rp (nz p) (2 * m)) := by
  have u0 := Flo.u_pos
  have u1 := u_tin
  obtain ⟨m1, m2, m3⟩ := mulB_sz (powZ p m) (powZ p m) h.ok h.ok h.mid h.mid
  have cu0 := Rat.mul_nonneg h0 (Rat.le_of_lt u0)
  have cu : c * Flo.u ≤ 1000 * Flo.u := Rat.mul_le_mul_of_nonneg_right hc (Rat.le_of_lt u0)
  have g0 := rp_nonneg (nz_nonneg p) m
  have e2 : rp (nz p) (2 * m) = rp (nz p) m * rp (nz p) m := by rw [show 2 * m = m + m from by omega, rp_add]
  have eP : exR (vz p) (1, 0) (2 * m) = ((exR (vz p) (1, 0) m).1 * (exR (vz p) (1, 0) m).1 - (exR (vz p) (1, 0) m).2 * (exR (vz p) (1, 0) m).2, (exR (vz p) (1, 0) m).1 * (exR (vz p) (1, 0) m).2 + (exR (vz p) (1, 0) m).2 * (exR (vz p) (1, 0) m).1) := by
    rw [show 2 * m = m + m from by omega, exR_on, exR_mul (vz p) (exR (vz p) (1, 0) m) m]
  have up := (pow_mid F m (by omega) (powZ p m) (c * Flo.u) (by grind) h.err).2
  have n0 := nz_nonneg (powZ p m)
  have nn : nz (powZ p m) * nz (powZ p m) ≤ 81 / 64 * (81 / 64) * (rp (nz p) m * rp (nz p) m) := by
    have a1 := Rat.mul_le_mul_of_nonneg_right up n0
    have a2 := Rat.mul_le_mul_of_nonneg_left up (show 0 ≤ 9 / 8 * (9 / 8) * rp (nz p) m by grind)
    grind
  have b1 := m3.scale (B := 81 / 64) (k := rp (nz p) m * rp (nz p) m) (by grind) (Rat.mul_nonneg g0 g0) nn
  have P1 : Sz (exR (vz p) (1, 0) m).1 (exR (vz p) (1, 0) m).2 1 (rp (nz p) m) := by
    have := Sz.self (exR (vz p) (1, 0) m).1 (exR (vz p) (1, 0) m).2
    rwa [exR_one_nz] at this
  have b2 := h.err.mul ((h.err.add P1).add P1)
  have b3 := (b1.add b2).eq (a := Flo.W (sqrZ p m).1 - (exR (vz p) (1, 0) (2 * m)).1) (b := Flo.W (sqrZ p m).2 - (exR (vz p) (1, 0) (2 * m)).2) (by rw [eP]; show _ = Flo.W (mulB (powZ p m) (powZ p m)).1 - _; grind) (by rw [eP]; show _ = Flo.W (mulB (powZ p m) (powZ p m)).2 - _; grind)
  rw [← e2] at b3
  have cc : c * Flo.u * (c * Flo.u + 1 + 1) ≤ 9 / 4 * (c * Flo.u) := by
    have := Rat.mul_le_mul_of_nonneg_left (show c * Flo.u + 1 + 1 ≤ 9 / 4 by grind) cu0
    grind
  have b4 := b3.mono (show _ ≤ (9 / 4 * c + 11) * Flo.u by clear b1 b2 b3 m3 P1; grind)
  obtain ⟨q1, q2⟩ := pow_mid F (2 * m) hm (sqrZ p m) _ (show (9 / 4 * c + 11) * Flo.u ≤ 1 / 8 by clear b1 b2 b3 b4 m3 P1; grind) b4
  exact ⟨m1, m2, q1, q2, b4⟩
theorem odd_near {p s : Nat × Nat} (F : Fair p s) (m : Nat) (hm : 2 * m + 1 ≤ 40) (c : Rat) (h0 : 0 ≤ c) (hc : c ≤ 1000) (h : PowN p m c) :
    mulC (fabC (sqrZ p m)) (fabC p) = (some (powZ p (2 * m + 1)).1, some (powZ p (2 * m + 1)).2) ∧ PowN p (2 * m + 1) (9 / 4 * c + 20) := by
  have u0 := Flo.u_pos
  have u1 := u_tin
  obtain ⟨-, a2, a3, a4, a5⟩ := sqr_near F m (by omega) c h0 hc h
  obtain ⟨m1, m2, m3⟩ := mulB_sz (sqrZ p m) p a2 F.pOk a3 F.midp
  have cu0 := Rat.mul_nonneg h0 (Rat.le_of_lt u0)
  have cu : c * Flo.u ≤ 1000 * Flo.u := Rat.mul_le_mul_of_nonneg_right hc (Rat.le_of_lt u0)
  have g0 := rp_nonneg (nz_nonneg p) (2 * m)
  have p0 := nz_nonneg p
  have nn : nz (sqrZ p m) * nz p ≤ 9 / 8 * (9 / 8) * (rp (nz p) (2 * m) * nz p) := by
    have a1 := Rat.mul_le_mul_of_nonneg_right a4 p0
    grind
  have b1 := m3.scale (B := 9 / 8) (k := rp (nz p) (2 * m) * nz p) (by grind) (Rat.mul_nonneg g0 p0) nn
  have b2 := a5.mul (Sz.self (Flo.W p.1) (Flo.W p.2))
  have b3 := (b1.add b2).eq (a := Flo.W (mulB (sqrZ p m) p).1 - (exR (vz p) (1, 0) (2 * m + 1)).1) (b := Flo.W (mulB (sqrZ p m) p).2 - (exR (vz p) (1, 0) (2 * m + 1)).2) (by simp only [exR, vz]; grind) (by simp only [exR, vz]; grind)
  have b4 : Sz (Flo.W (mulB (sqrZ p m) p).1 - (exR (vz p) (1, 0) (2 * m + 1)).1) (Flo.W (mulB (sqrZ p m) p).2 - (exR (vz p) (1, 0) (2 * m + 1)).2) ((9 / 4 * c + 20) * Flo.u) (rp (nz p) (2 * m + 1)) := b3.mono (by clear b1 b2 b3 m3; grind)
  rw [powZ_odd]
  refine ⟨m1, ?_⟩
  have q := pow_mid F (2 * m + 1) hm (mulB (sqrZ p m) p) _ (show (9 / 4 * c + 20) * Flo.u ≤ 1 / 8 by clear b1 b2 b3 b4 m3; grind) b4
  exact ⟨by rw [powZ_odd]; exact m2, by rw [powZ_odd]; exact q.1, by rw [powZ_odd]; exact b4⟩
theorem cl_le : 0 ≤ cl 0 ∧ 0 ≤ cl 1 ∧ 0 ≤ cl 2 ∧ 0 ≤ cl 3 ∧ 0 ≤ cl 4 ∧ cl 0 ≤ 1000 ∧ cl 1 ≤ 1000 ∧ cl 2 ≤ 1000 ∧ cl 3 ≤ 1000 ∧ cl 4 ≤ 1000 ∧ cl 5 ≤ 1000 := by
  simp only [cl]
  refine ⟨?_, ?_, ?_, ?_, ?_, ?_, ?_, ?_, ?_, ?_, ?_⟩ <;> grind
theorem cl_ok (l : Nat) (h : l < 5) : 0 ≤ cl l ∧ cl l ≤ 1000 := by
  obtain ⟨h1, h2, h3, h4, h5, h6, h7, h8, h9, h10, -⟩ := cl_le
  match l, h with
  | 0, _ => exact ⟨h1, h6⟩
  | 1, _ => exact ⟨h2, h7⟩
  | 2, _ => exact ⟨h3, h8⟩
  | 3, _ => exact ⟨h4, h9⟩
  | 4, _ => exact ⟨h5, h10⟩
theorem pow_all {p s : Nat × Nat} (F : Fair p s) : ∀ l, l ≤ 5 → ∀ m, m < 2 ^ l → PowN p m (cl l)
  | 0, _, m, hm => by
    obtain rfl : m = 0 := by simpa using hm
    obtain ⟨o1, o2, o3, o4⟩ := unit_ok
    have z : Sz (Flo.W (powZ p 0).1 - (exR (vz p) (1, 0) 0).1) (Flo.W (powZ p 0).2 - (exR (vz p) (1, 0) 0).2) (cl 0 * Flo.u) (rp (nz p) 0) := by
      rw [powZ_zero]
      exact (Sz.zero (cl 0 * Flo.u) (rp (nz p) 0) (by simp [cl]) (by simp only [rp]; decide)).eq (by rw [o2]; simp only [exR]; grind) (by rw [o3]; simp only [exR]; grind)
    exact ⟨by rw [powZ_zero]; exact o1, (pow_mid F 0 (by omega) (powZ p 0) _ (by simp only [cl]; grind) z).1, z⟩
  | l + 1, hl, m, hm => by
    obtain ⟨c0, c1⟩ := cl_ok l (by omega)
    have hm2 : m / 2 < 2 ^ l := by rw [Nat.pow_succ] at hm; omega
    have i := pow_all F l (by omega) (m / 2) hm2
    have h32 : m < 32 := Nat.lt_of_lt_of_le hm (Nat.pow_le_pow_right (by omega) hl)
    by_cases h0 : m = 0
    · subst h0
      have i0 := i
      rw [show 0 / 2 = 0 from rfl] at i0
      exact ⟨i0.ok, i0.mid, i0.err.mono (by have u0 := Flo.u_pos; have := Rat.mul_le_mul_of_nonneg_right (show cl l ≤ cl (l + 1) by simp only [cl]; grind) (Rat.le_of_lt u0); grind)⟩
    · by_cases ho : m % 2 = 1
      · have e : m = 2 * (m / 2) + 1 := by omega
        have := (odd_near F (m / 2) (by omega) (cl l) c0 c1 i).2
        rw [← e] at this
        exact this
      · have e : m = 2 * (m / 2) := by omega
        obtain ⟨-, q1, q2, -, q3⟩ := sqr_near F (m / 2) (by omega) (cl l) c0 c1 i
        rw [← powZ_even p (m / 2) (by omega), ← e] at q1 q2 q3
        exact ⟨q1, q2, q3.mono (by have u0 := Flo.u_pos; have := Rat.mul_le_mul_of_nonneg_right (show 9 / 4 * cl l + 11 ≤ cl (l + 1) by simp only [cl]; grind) (Rat.le_of_lt u0); grind)⟩
/-- the products of the power, as the program takes them -/
theorem pow_told {p s : Nat × Nat} (F : Fair p s) (m : Nat) (h : m < 16) :
    mulC (fabC (powZ p m)) (fabC (powZ p m)) = (some (sqrZ p m).1, some (sqrZ p m).2) ∧ mulC (fabC (sqrZ p m)) (fabC p) = (some (powZ p (2 * m + 1)).1, some (powZ p (2 * m + 1)).2) := by
  obtain ⟨c0, c1⟩ := cl_ok 4 (by omega)
  have i := pow_all F 4 (by omega) m h
  exact ⟨(sqr_near F m (by omega) (cl 4) c0 c1 i).1, (odd_near F m (by omega) (cl 4) c0 c1 i).1⟩
theorem pow_end {p s : Nat × Nat} (F : Fair p s) (m : Nat) (h : m ≤ 20) : Okz (powZ p m) ∧ Flo.Ab (Flo.W (powZ p m).1 - (exR (vz p) (1, 0) m).1) (2000 * Flo.u) ∧ Flo.Ab (Flo.W (powZ p m).2 - (exR (vz p) (1, 0) m).2) (2000 * Flo.u) := by
  have u0 := Flo.u_pos
  have i := pow_all F 5 (by omega) m (by omega)
  have r1 := rp_le (nz_nonneg p) F.p2 m (by omega)
  have r2 : (m : Rat) ≤ 20 := by have := natR_le h; simpa using this
  have c5 := cl_le.2.2.2.2.2.2.2.2.2.2
  have c6 := Rat.mul_le_mul_of_nonneg_right c5 (Rat.le_of_lt u0)
  have q := ((i.err.scale (B := 9 / 8) (k := 1) (by grind) (by decide) (by grind)).mono (show _ ≤ 2000 * Flo.u by grind)).box
  exact ⟨i.ok, q.1, q.2⟩

end Go.Proofs.Ytlhhcchncobmhaa
