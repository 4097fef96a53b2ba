/- Plain: FitSquares and FitStart, whole.
   Conditions: those that each statement names. -/
import Derived.Test.YtlhhcchncobmhaaFitA
namespace Go.Proofs.Ytlhhcchncobmhaa
set_option linter.unusedSimpArgs false
set_option linter.unusedVariables false
open Go Go.RowKit

theorem range_drop {α : Type} (F : Nat → α) (n h m : Nat) (hm : h + m ≤ n) : (((List.range n).map F).drop h).take m = (List.range m).map (fun k => F (h + k)) := by
  apply List.ext_getElem?
  intro i
  by_cases hi : i < m
  · rw [List.getElem?_take, if_pos hi, List.getElem?_drop, List.getElem?_map, List.getElem?_map, List.getElem?_range (by omega), List.getElem?_range hi]
    rfl
  · rw [List.getElem?_eq_none (by simp; omega), List.getElem?_eq_none (by simp; omega)]
theorem range_take {α : Type} (F : Nat → α) (n m : Nat) (hm : m ≤ n) : ((List.range n).map F).take m = (List.range m).map F := by
  have := range_drop F n 0 m (by omega)
  simpa using this
theorem range_tail {α : Type} (F : Nat → α) (n : Nat) : ((List.range n).map F).drop 1 = (List.range (n - 1)).map (fun k => F (k + 1)) := by
  apply List.ext_getElem?
  intro i
  by_cases hi : i < n - 1
  · rw [List.getElem?_drop, List.getElem?_map, List.getElem?_map, List.getElem?_range (by omega), List.getElem?_range hi]
    simp only [Option.map_some, Option.some.injEq]
    rw [Nat.add_comm]
  · rw [List.getElem?_eq_none (by simp; omega), List.getElem?_eq_none (by simp; omega)]

/-- a number that rings is at most a little greater than the one before it -/
theorem ring_les {p s : Nat × Nat} (F : Fair p s) (k : Nat) (hk : k ≤ 50) : nz (ringB p s (k + 1)) ≤ 9 / 8 * (9 / 8) * nz (ringB p s k) := by
  have u0 := Flo.u_pos
  have u1 := u_tin
  have h := ring_near F k hk
  have z0 := nz_nonneg (ringB p s k)
  have a := Rat.mul_le_mul_of_nonneg_left F.p2 z0
  have g := ((Sz.self (Flo.W (ringB p s k).1) (Flo.W (ringB p s k).2)).mul (Sz.self (Flo.W p.1) (Flo.W p.2))).scale (B := 33 / 32) (k := nz (ringB p s k)) (by grind) z0 (by show nz (ringB p s k) * nz p ≤ _; grind)
  have l := ((g.add h).eq (a := Flo.W (ringB p s (k + 1)).1) (b := Flo.W (ringB p s (k + 1)).2) (by grind) (by grind)).mono (show _ ≤ (9 / 8 : Rat) by grind)
  exact l.2.2

theorem fitS_told {p s : Nat × Nat} (F : Fair p s) (n : Nat) (h2 : 2 ≤ n) (hn : n ≤ 41) :
    ∃ s1 s2 r, SumTold (((List.range n).map (ringB p s)).drop 1) (((List.range n).map (ringB p s)).take (n - 1)) s1 ∧ SumTold (((List.range n).map (ringB p s)).take (n - 1)) (((List.range n).map (ringB p s)).take (n - 1)) s2 ∧ divD s1.1 s1.2 s2.1 s2.2 = some (r.1, r.2) ∧ FitTold p (3900 * Flo.u) r := by
  have u0 := Flo.u_pos
  obtain ⟨pp1, pp2⟩ := F.part
  rw [range_tail, range_take _ _ _ (by omega)]
  obtain ⟨s1, s2, r, a1, a2, -, -, a3, a4, a5, a6, a7⟩ := squares_near (fun k => ringB p s (k + 1)) (ringB p s) (n - 1) (by omega) (by omega) (fun k hk => ⟨(ring_all F (k + 1) (by omega)).ok, (ring_all F (k + 1) (by omega)).mid (by omega)⟩) (fun k hk => ⟨(ring_all F k (by omega)).ok, (ring_all F k (by omega)).mid (by omega)⟩) (Flo.W p.1) (Flo.W p.2) (9 / 8) (13 / 4) 9 (9 / 8) (254 * (9 / 8) + 9 + 508 * (9 / 8)) (by grind) (by grind) (by grind) pp1 pp2 (by grind) (by grind) (by grind) (by grind) (by grind) (fun k hk => ring_near F k (by omega)) (fun k hk => ring_les F k (by omega))
  exact ⟨s1, s2, r, a1, a2, a3, a4, a5, a6.mono (by grind), a7.mono (by grind)⟩

/-! ### the start -/
def oneZ : Nat × Nat := (4607182418800017408, 0)
theorem unit_ok : Okz oneZ ∧ Flo.W oneZ.1 = 1 ∧ Flo.W oneZ.2 = 0 ∧ nz oneZ = 1 := by
  have w1 : Flo.W oneZ.1 = 1 := num_one.2
  have w2 : Flo.W oneZ.2 = 0 := zero_num.2
  refine ⟨⟨num_one.1, zero_num.1, ?_⟩, w1, w2, ?_⟩
  · unfold Wz; decide
  · unfold nz; rw [w1, w2]; grind
theorem Fair.one {p s : Nat × Nat} (F : Fair p s) : Fair p oneZ := by
  obtain ⟨h1, -, -, h4⟩ := unit_ok
  refine ⟨F.pOk, h1, F.p1, F.p2, ?_, ?_⟩
  · rw [h4, ← Flo.pw_zero]; exact Flo.pw_le (by omega)
  · rw [h4, ← Flo.pw_zero]; exact Flo.pw_le (by omega)
theorem exR_mul (p s : Rat × Rat) : ∀ k, exR p s k = ((exR p (1, 0) k).1 * s.1 - (exR p (1, 0) k).2 * s.2, (exR p (1, 0) k).1 * s.2 + (exR p (1, 0) k).2 * s.1)
  | 0 => by simp only [exR]; exact Prod.ext (by grind) (by grind)
  | k + 1 => by
    have i := exR_mul p s k
    simp only [exR]
    rw [i]
    exact Prod.ext (by grind) (by grind)
theorem exR_on (p s : Rat × Rat) (h : Nat) : ∀ k, exR p s (h + k) = exR p (exR p s h) k
  | 0 => rfl
  | k + 1 => by
    have i := exR_on p s h k
    rw [show h + (k + 1) = h + k + 1 from by omega]
    simp only [exR]
    rw [i]
theorem vz_one : vz oneZ = (1, 0) := Prod.ext unit_ok.2.1 unit_ok.2.2.1
theorem rp_add (q : Rat) (h : Nat) : ∀ k, rp q (h + k) = rp q h * rp q k
  | 0 => by simp [rp]
  | k + 1 => by
    rw [show h + (k + 1) = h + k + 1 from by omega]
    simp only [rp]
    rw [rp_add q h k]
    grind
/-- what rings from 1, and what the powers of the pole are -/
theorem one_err {p s : Nat × Nat} (F : Fair p s) (k : Nat) (hk : k ≤ 51) : Sz (Flo.W (ringB p oneZ k).1 - (exR (vz p) (1, 0) k).1) (Flo.W (ringB p oneZ k).2 - (exR (vz p) (1, 0) k).2) (10 * (k : Rat) * Flo.u) (rp (nz p) k) := by
  have h := (ring_all F.one k hk).err
  rw [vz_one, unit_ok.2.2.2, Rat.one_mul] at h
  exact h
theorem exR_one_nz (p : Nat × Nat) (k : Nat) : (exR (vz p) (1, 0) k).1 * (exR (vz p) (1, 0) k).1 + (exR (vz p) (1, 0) k).2 * (exR (vz p) (1, 0) k).2 = rp (nz p) k := by
  rw [exR_sq, vz_sq]
  grind
theorem ku_le {k : Nat} (hk : k ≤ 51) : 0 ≤ (k : Rat) * Flo.u ∧ (k : Rat) * Flo.u ≤ 51 * Flo.u := by
  have u0 := Flo.u_pos
  have hk0 : (0 : Rat) ≤ (k : Rat) := by have := natR_le (Nat.zero_le k); simpa using this
  have hk1 : (k : Rat) ≤ 51 := by have := natR_le hk; simpa using this
  exact ⟨Rat.mul_nonneg hk0 (Rat.le_of_lt u0), Rat.mul_le_mul_of_nonneg_right hk1 (Rat.le_of_lt u0)⟩
theorem one_lower {p s : Nat × Nat} (F : Fair p s) (k : Nat) (hk : k ≤ 51) : rp (nz p) k ≤ 2 * nz (ringB p oneZ k) := by
  have u1 := u_tin
  obtain ⟨k0, k1⟩ := ku_le hk
  have h := one_err F k hk
  rw [← exR_one_nz] at h
  have l := sz_lower h (by grind)
  rw [exR_one_nz] at l
  show rp (nz p) k ≤ 2 * (Flo.W (ringB p oneZ k).1 * Flo.W (ringB p oneZ k).1 + Flo.W (ringB p oneZ k).2 * Flo.W (ringB p oneZ k).2)
  grind
/-- a number that rings, near the start by the power -/
theorem start_err {p s : Nat × Nat} (F : Fair p s) (k : Nat) (hk : k ≤ 51) : Sz (Flo.W (ringB p s k).1 - (Flo.W (ringB p oneZ k).1 * Flo.W s.1 - Flo.W (ringB p oneZ k).2 * Flo.W s.2)) (Flo.W (ringB p s k).2 - (Flo.W (ringB p oneZ k).1 * Flo.W s.2 + Flo.W (ringB p oneZ k).2 * Flo.W s.1)) (20 * (k : Rat) * Flo.u) (nz s * rp (nz p) k) := by
  have h1 := (ring_all F k hk).err
  rw [exR_mul] at h1
  have h2 := (one_err F k hk).mul (Sz.self (Flo.W s.1) (Flo.W s.2))
  rw [show rp (nz p) k * (Flo.W s.1 * Flo.W s.1 + Flo.W s.2 * Flo.W s.2) = nz s * rp (nz p) k by unfold nz; grind] at h2
  exact ((h1.sub h2).eq (by simp only [vz]; grind) (by simp only [vz]; grind)).mono (by grind)
/-- a number that rings is no greater than the start by the power, but for little -/
theorem ring_size {p s : Nat × Nat} (F : Fair p s) (k : Nat) (hk : k ≤ 51) : Sz (Flo.W (ringB p s k).1) (Flo.W (ringB p s k).2) (17 / 16) (nz s * rp (nz p) k) := by
  have u1 := u_tin
  obtain ⟨k0, k1⟩ := ku_le hk
  have h := (ring_all F k hk).err
  have a1 : Sz (exR (vz p) (vz s) k).1 (exR (vz p) (vz s) k).2 1 (nz s * rp (nz p) k) := by
    have := Sz.self (exR (vz p) (vz s) k).1 (exR (vz p) (vz s) k).2
    rwa [exR_nz] at this
  exact ((a1.add h).eq (by grind) (by grind)).mono (by grind)

theorem fitStart_told {p s : Nat × Nat} (F : Fair p s) (hs : nz s ≤ 32) (hs1 : Flo.Ab (Flo.W s.1) 4) (hs2 : Flo.Ab (Flo.W s.2) 4) (n : Nat) (h1 : 1 ≤ n) (hn : n ≤ 41) :
    ∃ s1 s2 r, SumTold ((List.range n).map (ringB p s)) ((List.range n).map (ringB p oneZ)) s1 ∧ SumTold ((List.range n).map (ringB p oneZ)) ((List.range n).map (ringB p oneZ)) s2 ∧ divD s1.1 s1.2 s2.1 s2.2 = some (r.1, r.2) ∧ FitTold s (40000 * Flo.u) r := by
  have u0 := Flo.u_pos
  have F1 := F.one
  have hsc : ∀ k, k < n → nz s * rp (nz p) k ≤ 8 * 8 * nz (ringB p oneZ k) := by
    intro k hk
    have l := one_lower F k (by omega)
    have r0 := rp_nonneg (nz_nonneg p) k
    have := Rat.mul_le_mul_of_nonneg_right hs r0
    grind
  obtain ⟨s1, s2, r, a1, a2, -, -, a3, a4, a5, a6, a7⟩ := squares_near (ringB p s) (ringB p oneZ) n (by omega) (by omega) (fun k hk => ⟨(ring_all F k (by omega)).ok, (ring_all F k (by omega)).mid (by omega)⟩) (fun k hk => ⟨(ring_all F1 k (by omega)).ok, (ring_all F1 k (by omega)).mid (by omega)⟩) (Flo.W s.1) (Flo.W s.2) 4 9 8160 (17 / 2) (254 * (17 / 2) + 8160 + 508 * 4) (by grind) (by grind) (by grind) hs1 hs2 (by grind) (by grind) (by grind) (by grind) (by grind)
    (fun k hk => ((start_err F k (by omega)).scale (B := 8) (by grind) (nz_nonneg _) (hsc k hk)).mono (by have := (ku_le (show k ≤ 51 by omega)).2; grind))
    (fun k hk => (((ring_size F k (by omega)).scale (B := 8) (by grind) (nz_nonneg _) (hsc k hk)).mono (show _ ≤ (17 / 2 : Rat) by grind)).2.2)
  exact ⟨s1, s2, r, a1, a2, a3, a4, a5, a6.mono (by grind), a7.mono (by grind)⟩

end Go.Proofs.Ytlhhcchncobmhaa
