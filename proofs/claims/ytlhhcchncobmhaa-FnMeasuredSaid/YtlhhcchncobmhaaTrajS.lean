/- Plain facts: ringing in single precision and in double precision stays near exact ringing. No program stands in it.
   Conditions: those that each statement names. -/
import Derived.Test.YtlhhcchncobmhaaTraj
import Derived.Test.YtlhhcchncobmhaaRingD
namespace Go.Proofs.Ytlhhcchncobmhaa
set_option linter.unusedSimpArgs false
set_option linter.unusedVariables false
open Go

/-! ### one mode -/
def st1 (m : M4) (x : Nat → Nat) : Nat → Nat × Nat
  | 0 => (0, 0)
  | i + 1 => stepS m (st1 m x i) (x i)
def st1D (m : M4) (x : Nat → Nat) : Nat → Nat × Nat
  | 0 => (0, 0)
  | i + 1 => stepD m (st1D m x i) (wid (x i))
theorem zip_map (f : M4 → Nat × Nat → Nat × Nat) (g : M4 → Nat × Nat) : ∀ ms : List M4, List.zipWith f ms (ms.map g) = ms.map fun m => f m (g m)
  | [] => rfl
  | m :: ms => by simp [zip_map f g ms]
theorem stAt_map (ms : List M4) (x : Nat → Nat) : ∀ i, stAt ms x i = ms.map fun m => st1 m x i
  | 0 => rfl
  | i + 1 => by
    simp only [stAt, stepAll, stAt_map ms x i]
    exact zip_map (fun m s => stepS m s (x i)) (fun m => st1 m x i) ms
theorem stDAt_map (ms : List M4) (x : Nat → Nat) : ∀ i, stDAt ms x i = ms.map fun m => st1D m x i
  | 0 => rfl
  | i + 1 => by
    simp only [stDAt, stepAllD, stDAt_map ms x i]
    exact zip_map (fun m s => stepD m s (wid (x i))) (fun m => st1D m x i) ms

def gm (m : M4) : Rat := ra (S m.gr) + ra (S m.gi)
theorem gm_nonneg (m : M4) : 0 ≤ gm m := by unfold gm; have := ra_nonneg (S m.gr); have := ra_nonneg (S m.gi); grind
/-- bounds, by the product P of a mode's gain and the input's sum -/
def bM' (P : Rat) : Rat := 26 / 25 * P + 60000 * Flo.es
def bM (P : Rat) : Rat := 21 / 20 * P + 65536 * Flo.es
def bL (P : Rat) : Rat := (2 * bM P + 2 * P) * Flo.v + (bM P + bM' P + P) * Flo.v / 1024 + 6 * Flo.es
theorem bL_le (P : Rat) (hP : 0 ≤ P) : 0 ≤ bL P ∧ bL P ≤ 42 / 10 * (P * Flo.v) + 7 * Flo.es := by
  have ve := Flo.v_eq
  have hv : Flo.v = 1 / 16777216 := by grind
  have e0 := Flo.es_pos
  unfold bL bM bM'
  rw [hv]
  constructor <;> grind
theorem bM'_ok (P : Rat) (hP : 0 ≤ P) (n : Nat) (hn : n ≤ 2000) : 51 / 50 * (P + (n : Rat) * (3 / 2 * bL P)) ≤ bM' P := by
  obtain ⟨h0, h1⟩ := bL_le P hP
  have hn1 : (n : Rat) ≤ 2000 := by
    have : ((n : Nat) : Rat) ≤ ((2000 : Nat) : Rat) := by exact_mod_cast hn
    exact this
  have hn0 : (0 : Rat) ≤ (n : Rat) := by exact_mod_cast Nat.zero_le n
  have k := Rat.mul_le_mul_of_nonneg_right hn1 (show 0 ≤ 3 / 2 * bL P by grind)
  have ve := Flo.v_eq
  have hv : Flo.v = 1 / 16777216 := by grind
  have e0 := Flo.es_pos
  rw [hv] at h1
  unfold bM'
  grind

theorem bounds_110 (P : Rat) (hP : 0 ≤ P) (h : P ≤ Flo.pw 100) : bM' P ≤ Flo.pw 110 ∧ bM P ≤ Flo.pw 110 ∧ P ≤ Flo.pw 110 := by
  have l : Flo.pw 110 = 1024 * Flo.pw 100 := by rw [show (110 : Int) = 10 + 100 from rfl, Flo.pw_add, show Flo.pw 10 = 1024 from Flo.pw_nat 10]
  have o : 1 ≤ Flo.pw 100 := by rw [← Flo.pw_zero]; exact Flo.pw_le (by omega)
  have es1 := small'.es1
  have e0 := Flo.es_pos
  unfold bM bM'
  refine ⟨by grind, by grind, by grind⟩

theorem inner_le (x : Nat → Rat) (X : Rat) (n i : Nat) (hi : i < n) (hX : ∀ i, i ≤ n → psum x i ≤ X) : ra (x i) ≤ X := by
  have h := hX (i + 1) (by omega)
  have := psum_nonneg x i
  simp only [psum] at h
  grind

/-- what one step needs, from the bound on the state -/
theorem step_in (m : M4) (hm : m.ok) (a b y X : Rat) (hy : ra y ≤ X) (hN : N a b (bM' (gm m * X))) :
    Flo.Ab (a * S m.pr - b * S m.pi) (bM (gm m * X)) ∧ Flo.Ab (a * S m.pi + b * S m.pr) (bM (gm m * X)) ∧ Flo.Ab (S m.gr * y) (gm m * X) ∧ Flo.Ab (S m.gi * y) (gm m * X) ∧ 0 ≤ gm m * X := by
  have hX0 : 0 ≤ X := by have := ra_nonneg y; grind
  have hP := Rat.mul_nonneg (gm_nonneg m) hX0
  have e0 := Flo.es_pos
  have k := (hN.mul (show (0 : Rat) ≤ 1 + 1 / 200000 by grind) (pole_T (Valid.square hm))).mono (show bM' (gm m * X) * (1 + 1 / 200000) ≤ bM (gm m * X) by unfold bM' bM; grind)
  have g := (N.gain (S m.gr) (S m.gi) y).mono (show (ra (S m.gr) + ra (S m.gi)) * ra y ≤ gm m * X from Rat.mul_le_mul_of_nonneg_left hy (gm_nonneg m))
  exact ⟨k.ab.1, k.ab.2, g.ab.1, g.ab.2, hP⟩

theorem zero_single : Sm 0 ∧ S 0 = 0 := by
  have h : Ieee.single.read 0 = .number false 0 (-149) := by decide
  exact ⟨⟨_, _, _, h⟩, by rw [show S 0 = _ from Flo.V_eq h]; exact Flo.val_zero _ _⟩

theorem mode_single (m : M4) (hm : m.ok) (x : Nat → Nat) (n : Nat) (hn : n ≤ 2000) (hx : ∀ i, i < n → Sm (x i)) (X : Rat) (hX : ∀ i, i ≤ n → psum (fun j => S (x j)) i ≤ X) (hP : gm m * X ≤ Flo.pw 100) (hX0 : 0 ≤ X) :
    (∀ i, i ≤ n → (Sm (st1 m x i).1 ∧ Sm (st1 m x i).2) ∧ N (S (st1 m x i).1 - (zt (S m.pr) (S m.pi) (S m.gr) (S m.gi) (fun j => S (x j)) i).1) (S (st1 m x i).2 - (zt (S m.pr) (S m.pi) (S m.gr) (S m.gi) (fun j => S (x j)) i).2) ((i : Rat) * (3 / 2 * bL (gm m * X)) * (1 + (i : Rat) / 100000)) ∧
      N (S (st1 m x i).1) (S (st1 m x i).2) (bM' (gm m * X))) ∧ ∀ i, i < n → StepOk m (st1 m x i) (x i) := by
  have hP0 := Rat.mul_nonneg (gm_nonneg m) hX0
  obtain ⟨t1, t2, t3⟩ := bounds_110 _ hP0 hP
  have l2 := Flo.pw_le (show (110 : Int) ≤ 112 by omega)
  have one : ∀ i, i < n → (Sm (st1 m x i).1 ∧ Sm (st1 m x i).2) → N (S (st1 m x i).1) (S (st1 m x i).2) (bM' (gm m * X)) → StepOk m (st1 m x i) (x i) ∧ (Sm (st1 m x (i + 1)).1 ∧ Sm (st1 m x (i + 1)).2) ∧
      Flo.Ab (S (st1 m x (i + 1)).1 - (S (st1 m x i).1 * S m.pr - S (st1 m x i).2 * S m.pi + S m.gr * S (x i))) (bL (gm m * X)) ∧ Flo.Ab (S (st1 m x (i + 1)).2 - (S (st1 m x i).1 * S m.pi + S (st1 m x i).2 * S m.pr + S m.gi * S (x i))) (bL (gm m * X)) := by
    intro i hi q hN
    obtain ⟨k1, k2, k3, k4, -⟩ := step_in m hm _ _ (S (x i)) X (inner_le (fun j => S (x j)) X n i hi hX) hN
    obtain ⟨a1, a2, a3, a4, a5⟩ := step_ok m hm (st1 m x i) (x i) q.1 q.2 (hx i hi) (bM' (gm m * X)) (bM (gm m * X)) (gm m * X) hN.ab.1 hN.ab.2 k1 k2 k3 k4 t1 (by grind) (by grind)
    exact ⟨a1, ⟨a2, a3⟩, a4.mono (by unfold bL; exact Rat.le_refl), a5.mono (by unfold bL; exact Rat.le_refl)⟩
  have tr := traj (S m.pr) (S m.pi) (S m.gr) (S m.gi) (fun j => S (x j)) (Valid.square hm) (fun i => (S (st1 m x i).1, S (st1 m x i).2)) (by simp only [st1]; rw [zero_single.2]) X (bM' (gm m * X)) (bL (gm m * X)) n hn (bL_le _ hP0).1 hX (bM'_ok _ hP0 n hn) (fun i => Sm (st1 m x i).1 ∧ Sm (st1 m x i).2) ⟨zero_single.1, zero_single.1⟩ (fun i hi q hN => (one i hi q hN).2)
  exact ⟨tr, fun i hi => (one i hi (tr i (by omega)).1 (tr i (by omega)).2.2).1⟩

theorem mode_double (m : M4) (hm : m.ok) (x : Nat → Nat) (n : Nat) (hn : n ≤ 2000) (hx : ∀ i, i < n → Sm (x i)) (X : Rat) (hX : ∀ i, i ≤ n → psum (fun j => S (x j)) i ≤ X) (hP : gm m * X ≤ Flo.pw 100) (hX0 : 0 ≤ X) :
    (∀ i, i ≤ n → (Flo.Nm (st1D m x i).1 ∧ Flo.Nm (st1D m x i).2) ∧ N (Flo.W (st1D m x i).1 - (zt (S m.pr) (S m.pi) (S m.gr) (S m.gi) (fun j => S (x j)) i).1) (Flo.W (st1D m x i).2 - (zt (S m.pr) (S m.pi) (S m.gr) (S m.gi) (fun j => S (x j)) i).2) ((i : Rat) * (3 / 2 * bL (gm m * X)) * (1 + (i : Rat) / 100000)) ∧
      N (Flo.W (st1D m x i).1) (Flo.W (st1D m x i).2) (bM' (gm m * X))) ∧ ∀ i, i < n → StepDOk m (st1D m x i) (wid (x i)) := by
  have hP0 := Rat.mul_nonneg (gm_nonneg m) hX0
  obtain ⟨t1, t2, t3⟩ := bounds_110 _ hP0 hP
  have l2 := Flo.pw_le (show (110 : Int) ≤ 112 by omega)
  have one : ∀ i, i < n → (Flo.Nm (st1D m x i).1 ∧ Flo.Nm (st1D m x i).2) → N (Flo.W (st1D m x i).1) (Flo.W (st1D m x i).2) (bM' (gm m * X)) → StepDOk m (st1D m x i) (wid (x i)) ∧ (Flo.Nm (st1D m x (i + 1)).1 ∧ Flo.Nm (st1D m x (i + 1)).2) ∧
      Flo.Ab (Flo.W (st1D m x (i + 1)).1 - (Flo.W (st1D m x i).1 * S m.pr - Flo.W (st1D m x i).2 * S m.pi + S m.gr * S (x i))) (bL (gm m * X)) ∧ Flo.Ab (Flo.W (st1D m x (i + 1)).2 - (Flo.W (st1D m x i).1 * S m.pi + Flo.W (st1D m x i).2 * S m.pr + S m.gi * S (x i))) (bL (gm m * X)) := by
    intro i hi q hN
    obtain ⟨k1, k2, k3, k4, -⟩ := step_in m hm _ _ (S (x i)) X (inner_le (fun j => S (x j)) X n i hi hX) hN
    obtain ⟨nx, vx⟩ := wid_num (hx i hi)
    rw [← vx] at k3 k4
    obtain ⟨a1, a2, a3, a4, a5⟩ := stepD_ok m hm (st1D m x i) (wid (x i)) q.1 q.2 nx (bM' (gm m * X)) (bM (gm m * X)) (gm m * X) hN.ab.1 hN.ab.2 k1 k2 k3 k4 t1 (by grind) (by grind)
    rw [vx] at a4 a5
    exact ⟨a1, ⟨a2, a3⟩, a4.mono (by unfold bL; exact Rat.le_refl), a5.mono (by unfold bL; exact Rat.le_refl)⟩
  have tr := traj (S m.pr) (S m.pi) (S m.gr) (S m.gi) (fun j => S (x j)) (Valid.square hm) (fun i => (Flo.W (st1D m x i).1, Flo.W (st1D m x i).2)) (by simp only [st1D]; rw [zero_num.2]) X (bM' (gm m * X)) (bL (gm m * X)) n hn (bL_le _ hP0).1 hX (bM'_ok _ hP0 n hn) (fun i => Flo.Nm (st1D m x i).1 ∧ Flo.Nm (st1D m x i).2) ⟨zero_num.1, zero_num.1⟩ (fun i hi q hN => (one i hi q hN).2)
  exact ⟨tr, fun i hi => (one i hi (tr i (by omega)).1 (tr i (by omega)).2.2).1⟩

end Go.Proofs.Ytlhhcchncobmhaa
