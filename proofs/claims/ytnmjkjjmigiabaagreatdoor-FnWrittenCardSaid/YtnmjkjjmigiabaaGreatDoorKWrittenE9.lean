/- Texts of a proof, put together: TrajT, Test, Rung, StepA, BowN, RoomN, FwB, FwW.
   Conditions: those that each statement names. -/
import Derived.Test.YtnmjkjjmigiabaaGreatDoorKWrittenE8
import Derived.Deep.RegionHeld3
import Derived.Deep.DeepCutAuto
/- Plain facts: the sums over the modes of a body, and the drift's bound. No program stands in it.
   Conditions: those that each statement names. -/
namespace Go.Proofs.YtnmjkjjmigiabaaGreatDoor
set_option linter.unusedSimpArgs false
set_option linter.unusedVariables false
open Go

def rs (f : M4 → Rat) : List M4 → Rat
  | [] => 0
  | m :: ms => f m + rs f ms
theorem rs_nonneg (f : M4 → Rat) : ∀ ms : List M4, (∀ m ∈ ms, 0 ≤ f m) → 0 ≤ rs f ms
  | [], _ => by simp [rs]
  | m :: ms, h => by
    have := rs_nonneg f ms (fun m hm => h m (List.mem_cons_of_mem _ hm))
    have := h m (List.mem_cons_self ..)
    simp only [rs]; grind
theorem rs_le (f g : M4 → Rat) : ∀ ms : List M4, (∀ m ∈ ms, f m ≤ g m) → rs f ms ≤ rs g ms
  | [], _ => by simp [rs]
  | m :: ms, h => by
    have := rs_le f g ms (fun m hm => h m (List.mem_cons_of_mem _ hm))
    have := h m (List.mem_cons_self ..)
    simp only [rs]; grind
theorem rs_ab (f g : M4 → Rat) : ∀ ms : List M4, (∀ m ∈ ms, Flo.Ab (f m) (g m)) → Flo.Ab (rs f ms) (rs g ms)
  | [], _ => by simp [rs, Flo.Ab]
  | m :: ms, h => (h m (List.mem_cons_self ..)).add (rs_ab f g ms (fun m hm => h m (List.mem_cons_of_mem _ hm)))
theorem rs_lin (f g h : M4 → Rat) (a b : Rat) (e : ∀ m, f m = a * g m + b * h m) : ∀ ms : List M4, rs f ms = a * rs g ms + b * rs h ms
  | [] => by simp only [rs]; grind
  | m :: ms => by simp only [rs]; rw [e, rs_lin f g h a b e ms]; grind
theorem rs_const : ∀ ms : List M4, rs (fun _ => 1) ms = (ms.length : Rat)
  | [] => by simp [rs]
  | m :: ms => by
    simp only [rs, List.length_cons]
    rw [rs_const ms]
    have : ((ms.length + 1 : Nat) : Rat) = (ms.length : Rat) + 1 := by exact_mod_cast rfl
    rw [this]; grind
theorem rs_sub (f g h : M4 → Rat) (e : ∀ m, f m = g m - h m) (ms : List M4) : rs f ms = rs g ms - rs h ms := by
  rw [rs_lin f g h 1 (-1) (fun m => by rw [e]; grind) ms]; grind

/-- a sum from the left, rounded at each step -/
theorem fold_ok (k : FloatKind) (num : Nat → Prop) (val : Nat → Rat) (hadd : ∀ x y B, num x → num y → Flo.Ab (val x + val y) B → B < Flo.pw 127 → ∃ r, floatBits .add k x y = some r ∧ num r ∧ Flo.Ab (val r - (val x + val y)) (B * Flo.v + Flo.es))
    (f : M4 → Nat × Nat) (Bf : M4 → Rat) (T ε : Rat) (hε0 : 0 ≤ ε) (hε : (T + 16 * ε) * Flo.v + Flo.es ≤ ε) (hT : T + 16 * ε < Flo.pw 127) :
    ∀ (ms : List M4) (y : Nat) (A A0 : Rat) (j : Nat), num y → Flo.Ab (val y - A) ((j : Rat) * ε) → Flo.Ab A A0 → (∀ m ∈ ms, num (f m).1 ∧ Flo.Ab (val (f m).1) (Bf m)) → A0 + rs Bf ms ≤ T → j + ms.length ≤ 16 →
      (∀ (i : Nat) s, (ms.map f)[i]? = some s → Calm .add k (((ms.map f).take i).foldl (fun y s => opB .add k y s.1) y) s.1) ∧ num ((ms.map f).foldl (fun y s => opB .add k y s.1) y) ∧
        Flo.Ab (val ((ms.map f).foldl (fun y s => opB .add k y s.1) y) - (A + rs (fun m => val (f m).1) ms)) (((j + ms.length : Nat) : Rat) * ε)
  | [], y, A, A0, j, hy, he, hA, hm, hs, hj => by
    refine ⟨fun i s h => by simp at h, hy, ?_⟩
    simp only [List.map_nil, List.foldl_nil, rs, List.length_nil, Nat.add_zero]
    exact he.eq (by grind)
  | m :: ms, y, A, A0, j, hy, he, hA, hm, hs, hj => by
    obtain ⟨n1, b1⟩ := hm m (List.mem_cons_self ..)
    have hB0 := rs_nonneg Bf ms (fun m' hm' => (hm m' (List.mem_cons_of_mem _ hm')).2.nonneg)
    simp only [rs] at hs
    simp only [List.length_cons] at hj
    have hj16 : (j : Rat) ≤ 16 := by
      have : ((j : Nat) : Rat) ≤ ((16 : Nat) : Rat) := by exact_mod_cast (by omega : j ≤ 16)
      exact this
    have hj0 : (0 : Rat) ≤ (j : Rat) := by exact_mod_cast Nat.zero_le j
    have hje := Rat.mul_le_mul_of_nonneg_right hj16 hε0
    have hb : Flo.Ab (val y + val (f m).1) (T + 16 * ε) := ((he.add hA).add b1).eq (by grind) |>.mono (by grind)
    obtain ⟨r, r1, r2, r3⟩ := hadd y (f m).1 _ hy n1 hb hT
    obtain ⟨c1, e1⟩ := Calm.of r1
    have he' : Flo.Ab (val r - (A + val (f m).1)) (((j + 1 : Nat) : Rat) * ε) := by
      have h2 : ((j + 1 : Nat) : Rat) = (j : Rat) + 1 := by exact_mod_cast rfl
      rw [h2]
      exact ((r3.mono hε).add he).eq (by grind) |>.mono (by grind)
    obtain ⟨i1, i2, i3⟩ := fold_ok k num val hadd f Bf T ε hε0 hε hT ms r (A + val (f m).1) (A0 + Bf m) (j + 1) r2 he' (hA.add b1) (fun m' hm' => hm m' (List.mem_cons_of_mem _ hm')) (by grind) (by omega)
    rw [← e1] at i1 i2 i3
    refine ⟨fun i s h => ?_, i2, ?_⟩
    · cases i with
      | zero => simp at h; subst h; simpa using c1
      | succ i => simpa using i1 i s (by simpa using h)
    · simp only [List.map_cons, List.foldl_cons, rs, List.length_cons]
      rw [show j + (ms.length + 1) = j + 1 + ms.length from by omega]
      exact i3.eq (by grind)

theorem add_single : ∀ x y B, Sm x → Sm y → Flo.Ab (S x + S y) B → B < Flo.pw 127 → ∃ r, floatBits .add .f32 x y = some r ∧ Sm r ∧ Flo.Ab (S r - (S x + S y)) (B * Flo.v + Flo.es) :=
  fun x y B hx hy h hB => Flo.s_add x y hx hy B h hB
theorem add_double : ∀ x y B, Flo.Nm x → Flo.Nm y → Flo.Ab (Flo.W x + Flo.W y) B → B < Flo.pw 127 → ∃ r, floatBits .add .f64 x y = some r ∧ Flo.Nm r ∧ Flo.Ab (Flo.W r - (Flo.W x + Flo.W y)) (B * Flo.v + Flo.es) := by
  intro x y B hx hy h hB
  obtain ⟨r, r1, r2, r3⟩ := Flo.d_add x y hx hy B h (by have := small'.l0; grind)
  refine ⟨r, r1, r2, r3.mono ?_⟩
  have hB0 := h.nonneg
  have huv : Flo.u ≤ Flo.v := Flo.pw_le (by omega)
  have := Rat.mul_le_mul_of_nonneg_left huv hB0
  have := Flo.et_le_es
  grind

/-- the bound on a drift, by the product P of the sum of all gains' sizes and the input's sum -/
def bDrift (n q : Nat) (P : Rat) : Rat := ((n : Rat) + (q : Rat) + 1) * P * (7 / 8) * Flo.pw (-20) + Flo.pw (-120)

/-- the errors' sum, in plain numbers -/
theorem drift_sum (n q P v es z : Rat) (hn0 : 0 ≤ n) (hn : n ≤ 2000) (hq0 : 0 ≤ q) (hq : q ≤ 16) (hP : 0 ≤ P) (ve : v * 16777216 = 1) (e0 : 0 < es) (ez : 536870912 * es ≤ z) :
    2 * (n * (3 / 2 * (42 / 10 * (P * v) + q * (7 * es))) * (51 / 50)) + 2 * (q * (2 * (26 / 25 * P + q * (60000 * es)) * v + 2 * es)) ≤ (n + q + 1) * P * (27 / 32) * (v * 16) + z / 2 := by
  have hv : v = 1 / 16777216 := by grind
  subst hv
  have k1 := Rat.mul_nonneg hn0 hP
  have k2 := Rat.mul_nonneg hq0 hP
  have k3 := Rat.mul_le_mul_of_nonneg_right hn (Rat.mul_nonneg hq0 (Rat.le_of_lt e0))
  have k4 := Rat.mul_le_mul_of_nonneg_right hq (Rat.le_of_lt e0)
  have k5 := Rat.mul_le_mul_of_nonneg_right hq (Rat.mul_nonneg hq0 (Rat.le_of_lt e0))
  have k6 := Rat.mul_nonneg hq0 (Rat.le_of_lt e0)
  grind

theorem rs_ge (f : M4 → Rat) : ∀ (ms : List M4), (∀ m ∈ ms, 0 ≤ f m) → ∀ m ∈ ms, f m ≤ rs f ms
  | [], _, m, hm => by simp at hm
  | a :: ms, h, m, hm => by
    have h1 := rs_nonneg f ms (fun m hm => h m (List.mem_cons_of_mem _ hm))
    have h2 := h a (List.mem_cons_self ..)
    simp only [rs]
    rcases List.mem_cons.1 hm with rfl | hm
    · grind
    · have := rs_ge f ms (fun m hm => h m (List.mem_cons_of_mem _ hm)) m hm
      grind

set_option maxHeartbeats 3200000 in
/-- RINGING IN SINGLE PRECISION STAYS NEAR RINGING IN DOUBLE PRECISION. -/
theorem drift_ok (ms : List M4) (hms : ∀ m ∈ ms, m.ok) (x : Nat → Nat) (n q : Nat) (hq : ms.length = q) (hq16 : q ≤ 16) (hn : n ≤ 2000) (hx : ∀ i, i < n → Sm (x i)) (X : Rat) (hX : ∀ i, i ≤ n → psum (fun j => S (x j)) i ≤ X) (hX0 : 0 ≤ X)
    (hP : rs gm ms * X ≤ Flo.pw 100) : RingOk ms x n ∧ RingDOk ms x n ∧ DiffOk ms x n (bDrift n q (rs gm ms * X)) ∧ 0 ≤ bDrift n q (rs gm ms * X) := by
  have hG0 := rs_nonneg gm ms (fun m _ => gm_nonneg m)
  have hP0 := Rat.mul_nonneg hG0 hX0
  have hPm : ∀ m ∈ ms, gm m * X ≤ Flo.pw 100 := fun m hm => by
    have := Rat.mul_le_mul_of_nonneg_right (rs_ge gm ms (fun m _ => gm_nonneg m) m hm) hX0
    grind
  have hs := fun m hm => mode_single m (hms m hm) x n hn hx X hX (hPm m hm) hX0
  have hd := fun m hm => mode_double m (hms m hm) x n hn hx X hX (hPm m hm) hX0
  have hq0 : (0 : Rat) ≤ (q : Rat) := by exact_mod_cast Nat.zero_le q
  have hqr : (q : Rat) ≤ 16 := by
    have : ((q : Nat) : Rat) ≤ ((16 : Nat) : Rat) := by exact_mod_cast hq16
    exact this
  have hn0 : (0 : Rat) ≤ (n : Rat) := by exact_mod_cast Nat.zero_le n
  have hnr : (n : Rat) ≤ 2000 := by
    have : ((n : Nat) : Rat) ≤ ((2000 : Nat) : Rat) := by exact_mod_cast hn
    exact this
  have e0 := Flo.es_pos
  have ve := Flo.v_eq
  have hv : Flo.v = 1 / 16777216 := by grind
  -- the sum of the bounds
  have hT : rs (fun m => bM' (gm m * X)) ms = 26 / 25 * (rs gm ms * X) + (q : Rat) * (60000 * Flo.es) := by
    have h := rs_lin (fun m => bM' (gm m * X)) gm (fun _ => 1) (26 / 25 * X) (60000 * Flo.es) (fun m => by unfold bM'; grind) ms
    rw [h, rs_const, hq]; grind
  generalize hTT : rs (fun m => bM' (gm m * X)) ms = T at *
  have hT0 : 0 ≤ T := by
    rw [hT]
    have := Rat.mul_nonneg hq0 (show (0 : Rat) ≤ 60000 * Flo.es by grind)
    grind
  have hTmax : T ≤ Flo.pw 110 := by
    have l : Flo.pw 110 = 1024 * Flo.pw 100 := by rw [show (110 : Int) = 10 + 100 from rfl, Flo.pw_add, show Flo.pw 10 = 1024 from Flo.pw_nat 10]
    have o : 1 ≤ Flo.pw 100 := by rw [← Flo.pw_zero]; exact Flo.pw_le (by omega)
    have es1 := small'.es1
    have := Rat.mul_le_mul_of_nonneg_right hqr (show (0 : Rat) ≤ 60000 * Flo.es by grind)
    grind
  obtain ⟨ε, hεd⟩ : ∃ ε, ε = 2 * T * Flo.v + 2 * Flo.es := ⟨_, rfl⟩
  have hε0 : 0 ≤ ε := by rw [hεd, hv]; grind
  have hε : (T + 16 * ε) * Flo.v + Flo.es ≤ ε := by rw [hεd, hv]; grind
  have hTt : T + 16 * ε < Flo.pw 127 := by
    have l1 := Flo.pw_lt (a := 112) (b := 127) (by omega)
    have l2 : Flo.pw 112 = 4 * Flo.pw 110 := by rw [show (112 : Int) = 2 + 110 from rfl, Flo.pw_add, show Flo.pw 2 = 4 from Flo.pw_nat 2]
    have o : 1 ≤ Flo.pw 110 := by rw [← Flo.pw_zero]; exact Flo.pw_le (by omega)
    have es1 := small'.es1
    rw [hεd, hv]; grind
  -- the two sums at one step
  have sumS := fun i (hi : i < n) => fold_ok .f32 Sm S add_single (fun m => st1 m x (i + 1)) (fun m => bM' (gm m * X)) T ε hε0 hε hTt ms 0 0 0 0 zero_single.1 (by rw [zero_single.2]; unfold Flo.Ab; simp; grind) (by unfold Flo.Ab; simp)
    (fun m hm => ⟨((hs m hm).1 (i + 1) (by omega)).1.1, ((hs m hm).1 (i + 1) (by omega)).2.2.ab.1⟩) (by rw [hTT]; grind) (by omega)
  have sumD := fun i (hi : i < n) => fold_ok .f64 Flo.Nm Flo.W add_double (fun m => st1D m x (i + 1)) (fun m => bM' (gm m * X)) T ε hε0 hε hTt ms 0 0 0 0 zero_num.1 (by rw [zero_num.2]; unfold Flo.Ab; simp; grind) (by unfold Flo.Ab; simp)
    (fun m hm => ⟨((hd m hm).1 (i + 1) (by omega)).1.1, ((hd m hm).1 (i + 1) (by omega)).2.2.ab.1⟩) (by rw [hTT]; grind) (by omega)
  refine ⟨fun i hi => ⟨?_, ?_⟩, fun i hi => ⟨hx i hi, ?_, ?_⟩, fun i hi => ?_, ?_⟩
  · intro k m s hm hst
    rw [stAt_map, List.getElem?_map, hm] at hst
    simp at hst
    subst hst
    exact (hs m (List.mem_of_getElem? hm)).2 i hi
  · intro k s h
    rw [stAt_map] at h ⊢
    exact (sumS i hi).1 k s h
  · intro k m s hm hst
    rw [stDAt_map, List.getElem?_map, hm] at hst
    simp at hst
    subst hst
    exact (hd m (List.mem_of_getElem? hm)).2 i hi
  · intro k s h
    rw [stDAt_map] at h ⊢
    exact (sumD i hi).1 k s h
  · obtain ⟨-, a2, a3⟩ := sumS i hi
    obtain ⟨-, b2, b3⟩ := sumD i hi
    have eS : outS (stAt ms x (i + 1)) = (ms.map fun m => st1 m x (i + 1)).foldl (fun y s => opB .add .f32 y s.1) 0 := by rw [stAt_map]; rfl
    have eD : outD (stDAt ms x (i + 1)) = (ms.map fun m => st1D m x (i + 1)).foldl (fun y s => opB .add .f64 y s.1) 0 := by rw [stDAt_map]; rfl
    rw [← eS] at a2 a3
    rw [← eD] at b2 b3
    generalize outS (stAt ms x (i + 1)) = oS at *
    generalize outD (stDAt ms x (i + 1)) = oD at *
    refine ⟨a2, ?_⟩
    rw [hq, Nat.zero_add] at a3 b3
    -- the difference of the exact sums
    have hdiff : Flo.Ab (rs (fun m => Flo.W (st1D m x (i + 1)).1) ms - rs (fun m => S (st1 m x (i + 1)).1) ms) (rs (fun m => 2 * ((n : Rat) * (3 / 2 * bL (gm m * X)) * (51 / 50))) ms) := by
      rw [← rs_sub (fun m => Flo.W (st1D m x (i + 1)).1 - S (st1 m x (i + 1)).1) _ _ (fun _ => rfl) ms]
      refine rs_ab _ _ ms fun m hm => ?_
      have k1 := ((hs m hm).1 (i + 1) (by omega)).2.1.ab.1
      have k2 := ((hd m hm).1 (i + 1) (by omega)).2.1.ab.1
      have hL := (bL_le (gm m * X) (Rat.mul_nonneg (gm_nonneg m) hX0)).1
      have hin : ((i + 1 : Nat) : Rat) ≤ (n : Rat) := by exact_mod_cast hi
      have hi0 : (0 : Rat) ≤ ((i + 1 : Nat) : Rat) := by exact_mod_cast Nat.zero_le _
      have f1 : 1 + ((i + 1 : Nat) : Rat) / 100000 ≤ 51 / 50 := by grind
      have g1 := Rat.mul_le_mul_of_nonneg_right hin (show 0 ≤ 3 / 2 * bL (gm m * X) by grind)
      have g2 := Rat.mul_nonneg hi0 (show 0 ≤ 3 / 2 * bL (gm m * X) by grind)
      have g3 := Rat.mul_le_mul_of_nonneg_left f1 g2
      exact ((k2.sub k1).eq (by grind)).mono (by grind)
    have hsum : rs (fun m => 2 * ((n : Rat) * (3 / 2 * bL (gm m * X)) * (51 / 50))) ms ≤ 2 * ((n : Rat) * (3 / 2 * (42 / 10 * (rs gm ms * X * Flo.v) + (q : Rat) * (7 * Flo.es))) * (51 / 50)) := by
      have h1 := rs_le (fun m => 2 * ((n : Rat) * (3 / 2 * bL (gm m * X)) * (51 / 50))) (fun m => 2 * ((n : Rat) * (3 / 2 * (42 / 10 * (gm m * X * Flo.v) + 7 * Flo.es)) * (51 / 50))) ms (fun m hm => by
        have hL := (bL_le (gm m * X) (Rat.mul_nonneg (gm_nonneg m) hX0)).2
        have := Rat.mul_le_mul_of_nonneg_left hL hn0
        grind)
      have h2 := rs_lin (fun m => 2 * ((n : Rat) * (3 / 2 * (42 / 10 * (gm m * X * Flo.v) + 7 * Flo.es)) * (51 / 50))) gm (fun _ => 1) (2 * ((n : Rat) * (3 / 2 * (42 / 10 * (X * Flo.v))) * (51 / 50))) (2 * ((n : Rat) * (3 / 2 * (7 * Flo.es)) * (51 / 50))) (fun m => by grind) ms
      rw [rs_const, hq] at h2
      rw [h2] at h1
      grind
    have hez : 536870912 * Flo.es ≤ Flo.pw (-120) := by
      have : Flo.pw (-120) = Flo.pw 29 * Flo.pw (-149) := by rw [← Flo.pw_add]; rfl
      rw [this, show Flo.pw 29 = 536870912 from Flo.pw_nat 29]
      exact Rat.le_refl
    have hfin := drift_sum (n : Rat) (q : Rat) (rs gm ms * X) Flo.v Flo.es (Flo.pw (-120)) hn0 hnr hq0 hqr hP0 ve e0 hez
    have hv16 : Flo.v * 16 = Flo.pw (-20) := by
      have : Flo.pw (-20) = Flo.pw 4 * Flo.pw (-24) := by rw [← Flo.pw_add]; rfl
      rw [this, show Flo.pw 4 = 16 from Flo.pw_nat 4]; unfold Flo.v; grind
    rw [hv16] at hfin
    have hall : Flo.Ab (Flo.W oD - S oS) (((n : Rat) + (q : Rat) + 1) * (rs gm ms * X) * (27 / 32) * Flo.pw (-20) + Flo.pw (-120) / 2) := by
      refine (((b3.sub a3).add hdiff).eq (by grind)).mono ?_
      rw [hεd, hT]
      grind
    obtain ⟨nw, vw⟩ := wid_num a2
    rw [← vw] at hall
    have hz := Flo.pw_pos (-120)
    have h20 := Flo.pw_pos (-20)
    have hK0 : 0 ≤ ((n : Rat) + (q : Rat) + 1) * (rs gm ms * X) := Rat.mul_nonneg (by grind) hP0
    have hK := Rat.mul_le_mul_of_nonneg_right (show (n : Rat) + (q : Rat) + 1 ≤ 2048 by grind) hP0
    have hbig : ((n : Rat) + (q : Rat) + 1) * (rs gm ms * X) * (27 / 32) * Flo.pw (-20) + Flo.pw (-120) / 2 < Flo.pw 1023 := by
      have l1 : Flo.pw (-20) ≤ 1 := by rw [← Flo.pw_zero]; exact Flo.pw_le (by omega)
      have l2 : Flo.pw (-120) ≤ 1 := by rw [← Flo.pw_zero]; exact Flo.pw_le (by omega)
      have l3 : Flo.pw 112 = 4096 * Flo.pw 100 := by rw [show (112 : Int) = 12 + 100 from rfl, Flo.pw_add, show Flo.pw 12 = 4096 from Flo.pw_nat 12]
      have l4 := Flo.pw_lt (a := 112) (b := 1023) (by omega)
      have o : 1 ≤ Flo.pw 100 := by rw [← Flo.pw_zero]; exact Flo.pw_le (by omega)
      have k := Rat.mul_le_mul_of_nonneg_left l1 (show 0 ≤ ((n : Rat) + (q : Rat) + 1) * (rs gm ms * X) * (27 / 32) by grind)
      grind
    obtain ⟨r, r1, r2, r3⟩ := Flo.d_sub oD (wid oS) b2 nw _ hall hbig
    refine ⟨r, r1, r2, ((r3.add hall).eq (by grind)).mono ?_⟩
    unfold bDrift
    have u1 := Flo.u_le
    have u0 := Flo.u_pos
    have et0 : Flo.et ≤ Flo.pw (-120) / 4 := by
      have : Flo.pw (-1074) ≤ Flo.pw (-122) := Flo.pw_le (by omega)
      have e : Flo.pw (-120) = 4 * Flo.pw (-122) := by rw [show (-120 : Int) = 2 + -122 from rfl, Flo.pw_add, show Flo.pw 2 = 4 from Flo.pw_nat 2]
      unfold Flo.et; grind
    have hKp := Rat.mul_nonneg hK0 (Rat.le_of_lt h20)
    have k1 := Rat.mul_le_mul_of_nonneg_left u1 hKp
    have k2 := Rat.mul_le_mul_of_nonneg_left u1 (Rat.le_of_lt hz)
    grind
  · have hz := Flo.pw_pos (-120)
    have hK0 : 0 ≤ ((n : Rat) + (q : Rat) + 1) * (rs gm ms * X) := Rat.mul_nonneg (by grind) hP0
    have hKp := Rat.mul_nonneg hK0 (Rat.le_of_lt (Flo.pw_pos (-20)))
    unfold bDrift
    grind

end Go.Proofs.YtnmjkjjmigiabaaGreatDoor

/- Plain facts: sums of sizes in double precision, and the drift's test as the law makes it. No program stands in it.
   Conditions: those that each statement names. -/
namespace Go.Proofs.YtnmjkjjmigiabaaGreatDoor
set_option linter.unusedSimpArgs false
set_option linter.unusedVariables false
open Go

theorem u_tiny : Flo.u ≤ 1 / 1000000000000 := by
  have h1 := uv
  have ve := Flo.v_eq
  grind

/-- one more summand: c is a millionth -/
theorem acc_sum (A a G T r k u et es : Rat) (hA : 0 ≤ A) (ha : 0 ≤ a) (hk : 0 ≤ k) (hk2 : k ≤ 16) (u0 : 0 < u) (u1 : u ≤ 1 / 1000000000000) (e0 : 0 < et) (ee : et ≤ es / 1024) (h1 : Flo.Ab (G - A) (A * k / 1000000 + k * es)) (h2 : Flo.Ab (T - a) (a * u + et)) :
    Flo.Ab (G + T) (2 * A + 2 * a + 32 * es) ∧ (Flo.Ab (r - (G + T)) ((2 * A + 2 * a + 32 * es) * u + et) → Flo.Ab (r - (A + a)) ((A + a) * (k + 1) / 1000000 + (k + 1) * es)) := by
  have hes : 0 < es := by grind
  have k1 := Rat.mul_le_mul_of_nonneg_right hk2 hA
  have k2 := Rat.mul_le_mul_of_nonneg_right hk2 (Rat.le_of_lt hes)
  have k3 := Rat.mul_le_mul_of_nonneg_left u1 hA
  have k4 := Rat.mul_le_mul_of_nonneg_left u1 ha
  have k5 := Rat.mul_le_mul_of_nonneg_left u1 (Rat.le_of_lt hes)
  have k6 := Rat.mul_nonneg hk ha
  have k7 := Rat.mul_nonneg ha (Rat.le_of_lt u0)
  have k8 := Rat.mul_nonneg hk hA
  have k9 := Rat.mul_nonneg hk (Rat.le_of_lt hes)
  unfold Flo.Ab at *
  constructor
  · constructor <;> grind
  · intro h3
    constructor <;> grind

/-- the first part of a product of two bounded errors -/
theorem prod_sum (P Q p q x y es c K1 : Rat) (hP : 0 ≤ P) (hQ : 0 ≤ Q) (hPm : P ≤ 33554432) (hQm : Q ≤ 8192) (h1 : Flo.Ab (p - P) (P * 6 / 1000000 + 4096 * es)) (h2 : Flo.Ab (q - Q) (Q * 12 / 1000000 + 12 * es)) (e0 : 0 < es) (e1 : es ≤ 1 / 1048576) :
    Flo.Ab (p * q - P * Q) (P * Q * 19 / 1000000 + 1073741824 * es) := by
  have hPQ := Rat.mul_nonneg hP hQ
  have a1 := Rat.mul_le_mul_of_nonneg_right hPm (Rat.le_of_lt e0)
  have a2 := Rat.mul_le_mul_of_nonneg_right hQm (Rat.le_of_lt e0)
  have a3 := Rat.mul_le_mul_of_nonneg_right e1 (Rat.le_of_lt e0)
  have a4 := Rat.mul_nonneg hP (Rat.le_of_lt e0)
  have a5 := Rat.mul_nonneg hQ (Rat.le_of_lt e0)
  have hq : Flo.Ab q (Q + (Q * 12 / 1000000 + 12 * es)) := by unfold Flo.Ab at *; constructor <;> grind
  have hPa : Flo.Ab P P := ⟨by grind, by grind⟩
  have k := (h1.mul hq).add (hPa.mul h2)
  refine (k.eq (by grind)).mono ?_
  grind

structure Pows : Prop where
  l1 : Flo.pw 40 < Flo.pw 1023
  l2 : Flo.pw 40 = 1099511627776
  z20 : Flo.pw (-20) * 1048576 = 1
  z100 : Flo.pw (-100) = 1048576 * Flo.pw (-120)
  z120 : Flo.pw (-120) = 536870912 * Flo.es
  es0 : 0 < Flo.es
  es1 : Flo.es ≤ 1 / 1048576
theorem pows : Pows where
  l1 := Flo.pw_lt (by omega)
  l2 := Flo.pw_nat 40
  z20 := by
    have e := Flo.pw_neg_mul 20
    rw [show Flo.pw 20 = 1048576 from Flo.pw_nat 20] at e
    exact e
  z100 := by rw [show (-100 : Int) = 20 + -120 from rfl, Flo.pw_add, show Flo.pw 20 = 1048576 from Flo.pw_nat 20]
  z120 := by
    have : Flo.pw (-120) = Flo.pw 29 * Flo.pw (-149) := by rw [← Flo.pw_add]; rfl
    rw [this, show Flo.pw 29 = 536870912 from Flo.pw_nat 29]; rfl
  es0 := Flo.es_pos
  es1 := small'.es1

set_option maxHeartbeats 1600000 in
/-- THE LAW's TEST OF THE DRIFT. -/
theorem test_ok (A g s d : Nat) (Nr G X : Rat) (nA : Flo.Nm A) (vA : Flo.W A = Nr) (hN0 : 0 ≤ Nr) (hN1 : Nr ≤ 512) (ng : Flo.Nm g) (hg : Flo.Ab (Flo.W g - G) (G * 5 / 1000000 + 5 * Flo.es)) (hG0 : 0 ≤ G) (hG1 : G ≤ 32768)
    (ns : Flo.Nm s) (hs : Flo.Ab (Flo.W s - X) (X * 12 / 1000000 + 12 * Flo.es)) (hX0 : 0 ≤ X) (hX1 : X ≤ 4096) (nd : Flo.Nm d) (hd : Flo.W d ≤ Nr * (G * X) * (7 / 8) * Flo.pw (-20) + Flo.pw (-120)) :
    Calm .mul .f64 A g ∧ Calm .mul .f64 (opB .mul .f64 A g) s ∧ Calm .mul .f64 (opB .mul .f64 (opB .mul .f64 A g) s) (powB 20) ∧ Calm .add .f64 (opB .mul .f64 (opB .mul .f64 (opB .mul .f64 A g) s) (powB 20)) (powB 100) ∧
      leB d (opB .add .f64 (opB .mul .f64 (opB .mul .f64 (opB .mul .f64 A g) s) (powB 20)) (powB 100)) = true := by
  obtain ⟨l1, l2, z20, z100, z120, es0, es1⟩ := pows
  have u0 := Flo.u_pos
  have u1 := u_tiny
  have et0 := Flo.et_pos
  have ee := small'.ee
  have hz : Flo.pw (-20) = 1 / 1048576 := by grind
  obtain ⟨n20, v20⟩ := powB_ok 20 (by omega)
  obtain ⟨n100, v100⟩ := powB_ok 100 (by omega)
  rw [show (-((20 : Nat) : Int)) = -20 from rfl, hz] at v20
  rw [show (-((100 : Nat) : Int)) = -100 from rfl] at v100
  -- N G
  have hNG0 := Rat.mul_nonneg hN0 hG0
  have hNG1 : Nr * G ≤ 16777216 := by
    have a := Rat.mul_le_mul_of_nonneg_right hN1 hG0
    grind
  have hNA : Flo.Ab Nr 512 := ⟨by grind, hN1⟩
  have hNN : Flo.Ab Nr Nr := ⟨by grind, by grind⟩
  have k0 := (hNN.mul hg).eq (show Nr * (Flo.W g - G) = Flo.W A * Flo.W g - Nr * G by rw [vA]; grind)
  have hNe := Rat.mul_le_mul_of_nonneg_right hN1 (Rat.le_of_lt es0)
  have k1 : Flo.Ab (Flo.W A * Flo.W g - Nr * G) (Nr * G * 5 / 1000000 + 2560 * Flo.es) := k0.mono (by grind)
  have hNGu := Rat.mul_le_mul_of_nonneg_left u1 hNG0
  have heu := Rat.mul_le_mul_of_nonneg_left u1 (Rat.le_of_lt es0)
  have k2 : Flo.Ab (Flo.W A * Flo.W g) (2 * (Nr * G) + 2560 * Flo.es) := by unfold Flo.Ab at *; constructor <;> grind
  obtain ⟨m1, a1, a2, a3⟩ := Flo.d_mul A g nA ng _ k2 (by grind)
  obtain ⟨c1, b1⟩ := Calm.of a1
  have k3 : Flo.Ab (Flo.W m1 - Nr * G) (Nr * G * 6 / 1000000 + 4096 * Flo.es) := ((a3.add k1).eq (by grind)).mono (by grind)
  -- N G X
  have k4 := prod_sum (Nr * G) X (Flo.W m1) (Flo.W s) 0 0 Flo.es 0 0 hNG0 hX0 (by grind) (by grind) k3 hs es0 es1
  have hP0 := Rat.mul_nonneg hNG0 hX0
  have hP1 : Nr * G * X ≤ 68719476736 := by
    have a := Rat.mul_le_mul_of_nonneg_right hNG1 hX0
    grind
  have hPu := Rat.mul_le_mul_of_nonneg_left u1 hP0
  have hPP : Flo.Ab (Nr * G * X) (Nr * G * X) := ⟨by grind, by grind⟩
  have k5 : Flo.Ab (Flo.W m1 * Flo.W s) (2 * (Nr * G * X) + 1073741824 * Flo.es) := ((k4.add hPP).eq (by grind)).mono (by grind)
  obtain ⟨m2, d1, d2, d3⟩ := Flo.d_mul m1 s a2 ns _ k5 (by grind)
  obtain ⟨c2, b2⟩ := Calm.of d1
  have k6 : Flo.Ab (Flo.W m2 - Nr * G * X) (Nr * G * X * 20 / 1000000 + 1073741825 * Flo.es) := ((d3.add k4).eq (by grind)).mono (by grind)
  -- times 2^-20
  have k7 : Flo.Ab (Flo.W m2 * Flo.W (powB 20)) (2 * (Nr * G * X) + 1073741825 * Flo.es) := by rw [v20]; unfold Flo.Ab at *; constructor <;> grind
  obtain ⟨m3, e1, e2, e3⟩ := Flo.d_mul m2 (powB 20) d2 n20 _ k7 (by grind)
  obtain ⟨c3, b3⟩ := Calm.of e1
  rw [v20] at e3
  have k8 : Flo.Ab (Flo.W m3 - Nr * G * X * Flo.pw (-20)) (Nr * G * X * Flo.pw (-20) * 30 / 1000000 + 2048 * Flo.es) := by
    rw [hz]; unfold Flo.Ab at *; constructor <;> grind
  -- plus 2^-100
  have hQ0 : 0 ≤ Nr * G * X * Flo.pw (-20) := by rw [hz]; grind
  have hQ1 : Nr * G * X * Flo.pw (-20) ≤ 65536 := by rw [hz]; grind
  have hdd : Nr * (G * X) * (7 / 8) * Flo.pw (-20) = Nr * G * X * Flo.pw (-20) * (7 / 8) := by grind
  rw [hdd] at hd
  clear hdd
  generalize Nr * G * X * Flo.pw (-20) = Q at *
  have h100 : 0 < Flo.pw (-100) := Flo.pw_pos _
  have h100b : Flo.pw (-100) ≤ 1 := by rw [← Flo.pw_zero]; exact Flo.pw_le (by omega)
  have k9 : Flo.Ab (Flo.W m3 + Flo.W (powB 100)) (2 * Q + 2 * Flo.pw (-100)) := by rw [v100]; unfold Flo.Ab at *; constructor <;> grind
  have hQu := Rat.mul_le_mul_of_nonneg_left u1 hQ0
  have hzu := Rat.mul_le_mul_of_nonneg_left u1 (Rat.le_of_lt h100)
  obtain ⟨m4, f1, f2, f3⟩ := Flo.d_add m3 (powB 100) e2 n100 _ k9 (by grind)
  obtain ⟨c4, b4⟩ := Calm.of f1
  rw [v100] at f3
  have hlow : Flo.W d ≤ Flo.W m4 := by
    unfold Flo.Ab at k8 f3
    grind
  rw [← b1] at c2 b2
  rw [← b2] at c3 b3
  rw [← b3] at c4 b4
  exact ⟨c1, c2, c3, c4, by rw [b4]; exact (leB_iff nd f2).2 hlow⟩

/-! ### the two sums of the law -/
theorem acc_add (g t k : Nat) (A a : Rat) (hk : k ≤ 15) (hA : 0 ≤ A) (ha : 0 ≤ a) (hAa : A + a ≤ 100000) (ng : Flo.Nm g) (nt : Flo.Nm t) (h1 : Flo.Ab (Flo.W g - A) (A * (k : Rat) / 1000000 + (k : Rat) * Flo.es)) (h2 : Flo.Ab (Flo.W t - a) (a * Flo.u + Flo.et)) :
    Calm .add .f64 g t ∧ Flo.Nm (opB .add .f64 g t) ∧ Flo.Ab (Flo.W (opB .add .f64 g t) - (A + a)) ((A + a) * ((k + 1 : Nat) : Rat) / 1000000 + ((k + 1 : Nat) : Rat) * Flo.es) := by
  have hk0 : (0 : Rat) ≤ (k : Rat) := by exact_mod_cast Nat.zero_le k
  have hk1 : (k : Rat) ≤ 16 := by
    have : ((k : Nat) : Rat) ≤ ((16 : Nat) : Rat) := by exact_mod_cast (by omega : k ≤ 16)
    exact this
  obtain ⟨l1, l2, -, -, -, es0, es1⟩ := pows
  obtain ⟨b1, b2⟩ := acc_sum A a (Flo.W g) (Flo.W t) (Flo.W (opB .add .f64 g t)) (k : Rat) Flo.u Flo.et Flo.es hA ha hk0 hk1 Flo.u_pos u_tiny Flo.et_pos small'.ee h1 h2
  obtain ⟨r, r1, r2, r3⟩ := Flo.d_add g t ng nt _ b1 (by grind)
  obtain ⟨c1, e1⟩ := Calm.of r1
  rw [← e1] at r2 r3
  have h3 : ((k + 1 : Nat) : Rat) = (k : Rat) + 1 := by exact_mod_cast rfl
  rw [h3]
  exact ⟨c1, r2, b2 r3⟩
theorem acc_subt (g t k : Nat) (A a : Rat) (hk : k ≤ 15) (hA : 0 ≤ A) (ha : 0 ≤ a) (hAa : A + a ≤ 100000) (ng : Flo.Nm g) (nt : Flo.Nm t) (h1 : Flo.Ab (Flo.W g - A) (A * (k : Rat) / 1000000 + (k : Rat) * Flo.es)) (h2 : Flo.Ab (-Flo.W t - a) (a * Flo.u + Flo.et)) :
    Calm .sub .f64 g t ∧ Flo.Nm (opB .sub .f64 g t) ∧ Flo.Ab (Flo.W (opB .sub .f64 g t) - (A + a)) ((A + a) * ((k + 1 : Nat) : Rat) / 1000000 + ((k + 1 : Nat) : Rat) * Flo.es) := by
  have hk0 : (0 : Rat) ≤ (k : Rat) := by exact_mod_cast Nat.zero_le k
  have hk1 : (k : Rat) ≤ 16 := by
    have : ((k : Nat) : Rat) ≤ ((16 : Nat) : Rat) := by exact_mod_cast (by omega : k ≤ 16)
    exact this
  obtain ⟨l1, l2, -, -, -, es0, es1⟩ := pows
  obtain ⟨b1, b2⟩ := acc_sum A a (Flo.W g) (-Flo.W t) (Flo.W (opB .sub .f64 g t)) (k : Rat) Flo.u Flo.et Flo.es hA ha hk0 hk1 Flo.u_pos u_tiny Flo.et_pos small'.ee h1 h2
  obtain ⟨r, r1, r2, r3⟩ := Flo.d_sub g t ng nt _ (b1.eq (show Flo.W g + -Flo.W t = Flo.W g - Flo.W t by grind)) (by grind)
  obtain ⟨c1, e1⟩ := Calm.of r1
  rw [← e1] at r2 r3
  have h3 : ((k + 1 : Nat) : Rat) = (k : Rat) + 1 := by exact_mod_cast rfl
  rw [h3]
  exact ⟨c1, r2, b2 (r3.eq (by grind))⟩

/-- a valid mode's gain: its size in double precision -/
theorem gain_ok (m : M4) (hm : m.ok) : Flo.Nm (szd (wid m.gr) (wid m.gi)) ∧ Flo.Ab (Flo.W (szd (wid m.gr) (wid m.gi)) - gm m) (gm m * Flo.u + Flo.et) ∧ gm m ≤ 2048 := by
  obtain ⟨n1, n2, n3, n4⟩ := hm.nums
  obtain ⟨-, -, -, -, -, h6, h7⟩ := Valid.parts hm
  obtain ⟨m3, v3⟩ := wid_num n3
  obtain ⟨m4, v4⟩ := wid_num n4
  obtain ⟨l3, lv3⟩ := labs_num _ (wid_lt m.gr) m3
  obtain ⟨l4, lv4⟩ := labs_num _ (wid_lt m.gi) m4
  rw [v3] at lv3
  rw [v4] at lv4
  have v1024 : Flo.W 4652218415073722368 = 1024 := by
    have h : Ieee.double.read 4652218415073722368 = .number false 4503599627370496 (-42) := by decide
    rw [show Flo.W 4652218415073722368 = _ from Flo.V_eq h]
    unfold Flo.val
    have := Flo.pw_neg_mul 42
    rw [show Flo.pw 42 = 4398046511104 from Flo.pw_nat 42] at this
    simp only [Bool.false_eq_true, if_false]
    have e2 : ((4503599627370496 : Nat) : Rat) = 4503599627370496 := rfl
    rw [e2]; grind
  have g3 := (leB_iff l3 num_1024).1 h6
  have g4 := (leB_iff l4 num_1024).1 h7
  rw [v1024] at g3 g4
  have a3 := ra_nonneg (S m.gr)
  have a4 := ra_nonneg (S m.gi)
  obtain ⟨l1, l2, -, -, -, es0, es1⟩ := pows
  have he : Flo.W (labs (wid m.gr)) + Flo.W (labs (wid m.gi)) = gm m := by rw [lv3, lv4]; rfl
  obtain ⟨r, r1, r2, r3⟩ := Flo.d_add _ _ l3 l4 (gm m) (by rw [he]; unfold gm Flo.Ab; grind) (by rw [← he]; grind)
  have hr : szd (wid m.gr) (wid m.gi) = r := by unfold szd; rw [r1]; rfl
  rw [hr]
  rw [he] at r3
  exact ⟨r2, r3, by rw [← he]; grind⟩

def xsum : List Nat → Rat
  | [] => 0
  | x :: l => ra (S x) + xsum l
theorem xsum_nonneg : ∀ l, 0 ≤ xsum l
  | [] => by simp [xsum]
  | x :: l => by have := xsum_nonneg l; have := ra_nonneg (S x); simp only [xsum]; grind
theorem xsum_app : ∀ a b, xsum (a ++ b) = xsum a + xsum b
  | [], b => by simp only [List.nil_append, xsum]; grind
  | x :: a, b => by simp only [List.cons_append, xsum]; rw [xsum_app a b]; grind
theorem xsum_take (l : List Nat) (k : Nat) (x : Nat) (h : l[k]? = some x) : xsum (l.take (k + 1)) = xsum (l.take k) + ra (S x) := by
  obtain ⟨hk, he⟩ := List.getElem?_eq_some_iff.1 h
  rw [List.take_succ_eq_append_getElem hk, he, xsum_app]
  simp only [xsum]; grind
theorem xsum_take_le (l : List Nat) (k : Nat) : xsum (l.take k) ≤ xsum l := by
  have h := xsum_app (l.take k) (l.drop k)
  rw [List.take_append_drop] at h
  have := xsum_nonneg (l.drop k)
  grind
theorem xsum_le (l : List Nat) (B : Rat) (h : ∀ x ∈ l, ra (S x) ≤ B) : xsum l ≤ (l.length : Rat) * B := by
  induction l with
  | nil => simp [xsum]
  | cons x l ih =>
    have h1 := ih (fun y hy => h y (List.mem_cons_of_mem _ hy))
    have h2 := h x (List.mem_cons_self ..)
    have h3 : ((l.length + 1 : Nat) : Rat) = (l.length : Rat) + 1 := by exact_mod_cast rfl
    simp only [xsum, List.length_cons]
    rw [h3]; grind
theorem psum_xsum (xs : List Nat) : ∀ i, psum (fun j => S (inputOf xs j)) i = xsum (xs.take i)
  | 0 => by simp [psum, xsum]
  | i + 1 => by
    simp only [psum]
    rw [psum_xsum xs i]
    by_cases hi : i < xs.length
    · have e : xs[i]? = some xs[i] := List.getElem?_eq_getElem hi
      rw [xsum_take xs i _ e, show inputOf xs i = xs[i] from by unfold inputOf; rw [List.getD_eq_getElem?_getD, e]; rfl]
    · rw [show inputOf xs i = 0 from by unfold inputOf; rw [List.getD_eq_getElem?_getD, List.getElem?_eq_none (by omega)]; rfl, zero_single.2, List.take_of_length_le (by omega), List.take_of_length_le (by omega)]
      have : ra 0 = 0 := by unfold ra; rw [if_neg (by grind)]
      rw [this]; grind

theorem rs_app (f : M4 → Rat) : ∀ a b, rs f (a ++ b) = rs f a + rs f b
  | [], b => by simp only [List.nil_append, rs]; grind
  | x :: a, b => by simp only [List.cons_append, rs]; rw [rs_app f a b]; grind
theorem rs_take (f : M4 → Rat) (l : List M4) (k : Nat) (m : M4) (h : l[k]? = some m) : rs f (l.take (k + 1)) = rs f (l.take k) + f m := by
  obtain ⟨hk, he⟩ := List.getElem?_eq_some_iff.1 h
  rw [List.take_succ_eq_append_getElem hk, he, rs_app]
  simp only [rs]; grind
theorem rs_max (f : M4 → Rat) (B : Rat) : ∀ l : List M4, (∀ m ∈ l, f m ≤ B) → rs f l ≤ (l.length : Rat) * B
  | [], _ => by simp [rs]
  | m :: l, h => by
    have h1 := rs_max f B l (fun m hm => h m (List.mem_cons_of_mem _ hm))
    have h2 := h m (List.mem_cons_self ..)
    have h3 : ((l.length + 1 : Nat) : Rat) = (l.length : Rat) + 1 := by exact_mod_cast rfl
    simp only [rs, List.length_cons]
    rw [h3]; grind

/-- 'x < 0' -/
def neg32 (x : Nat) : Bool := FloatKind.f32.format.order x 0 == some .lt
theorem neg32_iff {x : Nat} (h : Sm x) : (neg32 x = true → ra (S x) = -S x) ∧ (neg32 x = false → ra (S x) = S x) := by
  have o := (Flo.order_num Ieee.single x 0 h zero_single.1).1
  rw [show Flo.V Ieee.single 0 = 0 from zero_single.2] at o
  unfold neg32 ra
  rw [show FloatKind.f32.format = Ieee.single from rfl]
  constructor
  · intro hn
    rw [if_pos (o.1 (by simpa using hn))]
  · intro hn
    have : ¬ Flo.V Ieee.single x < 0 := fun g => by rw [o.2 g] at hn; simp at hn
    rw [if_neg this]

theorem Calm.runs {P : Program} {o : BinOp} {k : FloatKind} {x y : Nat} (h : Calm o k x y) (ho : o = .add ∨ o = .sub ∨ o = .mul) (t : TypeId) (w : World) : (binOp o t (.float k x) (.float k y)).run P w = .ok (.float k (opB o k x y)) w := by
  rcases ho with rfl | rfl | rfl
  · rw [run_fl_add, h.res, h.fdr]; rfl
  · rw [run_fl_sub, h.res, h.fdr]; rfl
  · rw [run_fl_mul, h.res, h.fdr]; rfl

end Go.Proofs.YtnmjkjjmigiabaaGreatDoor

/- Ringing as plain functions: a late input, the factor 1, the first samples. No walk stands in it.
   Conditions: those that each statement names. -/
namespace Go.Proofs.YtnmjkjjmigiabaaGreatDoor
set_option linter.unusedSimpArgs false
set_option linter.unusedVariables false
open Go

abbrev EvS (a b : Nat) : Prop := Flo.Ev Ieee.single a b
theorem opB_add_ev (k : FloatKind) {x x' y y' : Nat} (h : Flo.Ev k.format x x') (g : Flo.Ev k.format y y') : Flo.Ev k.format (opB .add k x y) (opB .add k x' y') := (Flo.add_ev k.format _ _ _ _ h g).getD
theorem opB_sub_ev (k : FloatKind) {x x' y y' : Nat} (h : Flo.Ev k.format x x') (g : Flo.Ev k.format y y') : Flo.Ev k.format (opB .sub k x y) (opB .sub k x' y') := (Flo.sub_ev k.format _ _ _ _ h g).getD
theorem opB_mul_ev (k : FloatKind) {x x' y y' : Nat} (h : Flo.Ev k.format x x') (g : Flo.Ev k.format y y') : Flo.Ev k.format (opB .mul k x y) (opB .mul k x' y') := (Flo.mul_ev k.format _ _ _ _ h g).getD
theorem wid_zr {a : Nat} (h : Flo.Zr Ieee.single a) : Flo.Zr Ieee.double (wid a) := by
  obtain ⟨s, p, h⟩ := h
  unfold wid FloatKind.encode FloatKind.decode
  rw [show FloatKind.f32.format = Ieee.single from rfl, h]
  exact Flo.write_zero Ieee.double s p
theorem wid_ev {a b : Nat} (h : EvS a b) : Flo.Ev Ieee.double (wid a) (wid b) := by
  rcases h with rfl | ⟨h1, h2⟩
  · exact .inl rfl
  · exact .inr ⟨wid_zr h1, wid_zr h2⟩
theorem nar_zr {a : Nat} (h : Flo.Zr Ieee.double a) : Flo.Zr Ieee.single (Flo.nar a) := by
  obtain ⟨s, p, h⟩ := h
  unfold Flo.nar FloatKind.encode FloatKind.decode
  rw [show FloatKind.f64.format = Ieee.double from rfl, h]
  exact Flo.write_zero Ieee.single s p
theorem nar_ev {a b : Nat} (h : Flo.Ev Ieee.double a b) : EvS (Flo.nar a) (Flo.nar b) := by
  rcases h with rfl | ⟨h1, h2⟩
  · exact .inl rfl
  · exact .inr ⟨nar_zr h1, nar_zr h2⟩

def EvP (s t : Nat × Nat) : Prop := EvS s.1 t.1 ∧ EvS s.2 t.2
theorem stepS_ev (m : M4) {s t : Nat × Nat} {x y : Nat} (h : EvP s t) (g : EvS x y) : EvP (stepS m s x) (stepS m t y) := by
  have w1 := wid_ev h.1
  have w2 := wid_ev h.2
  have r := Flo.Ev.refl Ieee.double
  have q := Flo.Ev.refl Ieee.single
  exact ⟨opB_add_ev .f32 (nar_ev (opB_sub_ev .f64 (opB_mul_ev .f64 w1 (r _)) (opB_mul_ev .f64 w2 (r _)))) (opB_mul_ev .f32 (q _) g),
    opB_add_ev .f32 (nar_ev (opB_add_ev .f64 (opB_mul_ev .f64 w1 (r _)) (opB_mul_ev .f64 w2 (r _)))) (opB_mul_ev .f32 (q _) g)⟩

theorem zr_zero : Flo.Zr Ieee.single 0 := ⟨false, -149, by decide⟩
theorem mul_zr' {k : FloatKind} {x y : Nat} (h : Flo.Zr k.format x) (g : Flo.IsNum k.format y) : Flo.Zr k.format (opB .mul k x y) := by
  obtain ⟨r, h1, h2⟩ := Flo.mul_zr h g
  rw [show opB .mul k x y = (k.format.mul x y).getD 0 from rfl, h1]; exact h2
theorem mul_zr'' {k : FloatKind} {x y : Nat} (h : Flo.Zr k.format y) (g : Flo.IsNum k.format x) : Flo.Zr k.format (opB .mul k x y) := by
  rw [show opB .mul k x y = (k.format.mul x y).getD 0 from rfl, Flo.mul_comm']
  exact mul_zr' h g
theorem add_zr' {k : FloatKind} {x y : Nat} (h : Flo.Zr k.format x) (g : Flo.Zr k.format y) : Flo.Zr k.format (opB .add k x y) := by
  obtain ⟨r, h1, h2⟩ := Flo.add_zr h g
  rw [show opB .add k x y = (k.format.add x y).getD 0 from rfl, h1]; exact h2
theorem sub_zr' {k : FloatKind} {x y : Nat} (h : Flo.Zr k.format x) (g : Flo.Zr k.format y) : Flo.Zr k.format (opB .sub k x y) := by
  obtain ⟨r, h1, h2⟩ := Flo.sub_zr h g
  rw [show opB .sub k x y = (k.format.sub x y).getD 0 from rfl, h1]; exact h2
theorem step_zero (m : M4) (hm : m.ok) : Flo.Zr Ieee.single (stepS m (0, 0) 0).1 ∧ Flo.Zr Ieee.single (stepS m (0, 0) 0).2 := by
  obtain ⟨n1, n2, n3, n4⟩ := hm.nums
  have w0 := wid_zr zr_zero
  have p1 := (wid_num n1).1
  have p2 := (wid_num n2).1
  exact ⟨add_zr' (k := .f32) (nar_zr (sub_zr' (k := .f64) (mul_zr' (k := .f64) w0 p1) (mul_zr' (k := .f64) w0 p2))) (mul_zr'' (k := .f32) zr_zero n3),
    add_zr' (k := .f32) (nar_zr (add_zr' (k := .f64) (mul_zr' (k := .f64) w0 p2) (mul_zr' (k := .f64) w0 p1))) (mul_zr'' (k := .f32) zr_zero n4)⟩

/-! ### a late input -/
theorem input_late (xs : List Nat) (i : Nat) : inputOf (0 :: xs) (i + 1) = inputOf xs i := by simp [inputOf]
theorem late_one (m : M4) (hm : m.ok) (xs : List Nat) : ∀ i, EvP (st1 m (inputOf (0 :: xs)) (i + 1)) (st1 m (inputOf xs) i)
  | 0 => by
    obtain ⟨h1, h2⟩ := step_zero m hm
    exact ⟨.inr ⟨h1, zr_zero⟩, .inr ⟨h2, zr_zero⟩⟩
  | i + 1 => by
    have h := stepS_ev m (late_one m hm xs i) (Flo.Ev.refl Ieee.single (inputOf xs i))
    show EvP (stepS m (st1 m (inputOf (0 :: xs)) (i + 1)) (inputOf (0 :: xs) (i + 1))) (stepS m (st1 m (inputOf xs) i) (inputOf xs i))
    rw [input_late]
    exact h
theorem fold_ev (g h : M4 → Nat × Nat) : ∀ (l : List M4) (a b : Nat), EvS a b → (∀ m ∈ l, EvP (g m) (h m)) → EvS ((l.map g).foldl (fun y s => opB .add .f32 y s.1) a) ((l.map h).foldl (fun y s => opB .add .f32 y s.1) b)
  | [], _, _, k, _ => k
  | m :: l, a, b, k, hl => fold_ev g h l _ _ (opB_add_ev .f32 k (hl m (List.mem_cons_self ..)).1) (fun m hm => hl m (List.mem_cons_of_mem _ hm))
theorem late_out (ms : List M4) (hms : ∀ m ∈ ms, m.ok) (xs : List Nat) (i : Nat) : EvS (outS (stAt ms (inputOf (0 :: xs)) (i + 2))) (outS (stAt ms (inputOf xs) (i + 1))) := by
  rw [stAt_map, stAt_map]
  exact fold_ev _ _ ms 0 0 (Flo.Ev.refl _ _) (fun m hm => late_one m (hms m hm) xs (i + 1))

/-- equal numbers compare so -/
theorem ev_order {a b : Nat} (h : EvS a b) (ha : Sm a) : (FloatKind.f32.format.order a b == some .eq) = true := by
  rw [show FloatKind.f32.format = Ieee.single from rfl, beq_iff_eq]
  rcases h with rfl | ⟨⟨s, p, h1⟩, ⟨t, q, h2⟩⟩
  · exact (Flo.order_num Ieee.single a a ha ha).2.1.2 rfl
  · refine (Flo.order_num Ieee.single a b ⟨_, _, _, h1⟩ ⟨_, _, _, h2⟩).2.1.2 ?_
    rw [Flo.V_eq h1, Flo.V_eq h2, Flo.val_zero, Flo.val_zero]

/-! ### the factor 1 -/
theorem one_read : Ieee.single.read 1065353216 = .number false 8388608 (-23) := by decide
theorem product_one (s : Bool) (m : Nat) (p : Int) : Ieee.Datum.product (.number s m p) (.number false 8388608 (-23)) = some (.number s (m * 8388608) (p + -23)) := by
  simp only [Ieee.Datum.product, Bool.xor_false]
theorem mul_one_bits {q : Nat} {s : Bool} {m : Nat} {p : Int} (h : Ieee.single.read q = .number s m p) : Ieee.single.mul q 1065353216 = some (Ieee.single.write (.number s (m * 8388608) (p + -23))) := by
  unfold Ieee.Format.mul
  rw [h, one_read, product_one]
  rfl
theorem opB_mul_of {x y r : Nat} (h : Ieee.single.mul x y = some r) : opB .mul .f32 x y = r := by
  have h2 : floatBits .mul .f32 x y = some r := h
  unfold opB; rw [h2]; rfl
theorem scale_same (s : Bool) (m : Nat) (p : Int) (hm : m ≠ 0) : Ieee.single.write (.number s (m * 8388608) (p + -23)) = Ieee.single.write (.number s m p) := by
  refine Flo.write_same Ieee.single s _ _ _ _ (by omega) ?_
  have := Flo.pw_neg_mul 23
  rw [show Flo.pw 23 = 8388608 from Flo.pw_nat 23] at this
  rw [Flo.pw_add, Rat.natCast_mul]
  have e2 : ((8388608 : Nat) : Rat) = 8388608 := rfl
  rw [e2]
  have h3 : (m : Rat) * Flo.pw p * (Flo.pw (-23) * 8388608) = (m : Rat) * Flo.pw p := by rw [this]; grind
  grind
theorem scale_zero (s : Bool) (p q : Int) : Ieee.single.write (.number s 0 p) = Ieee.single.write (.number s 0 q) := by
  have z0 : ∀ j : Int, Ieee.single.write (.number s 0 j) = Ieee.single.word s 0 := fun j => by simp only [Ieee.Format.write, Ieee.Format.nearest, if_true]
  rw [z0, z0]
theorem bin_inf : Ieee.single.binade ≤ Ieee.single.infRung := by decide
theorem mul_one_read {q : Nat} (h : Sm q) : Ieee.single.read (opB .mul .f32 q 1065353216) = Ieee.single.read q := by
  obtain ⟨s, m, p, h⟩ := h
  rw [opB_mul_of (mul_one_bits h)]
  have k := Flo.read_back Ieee.single bin_inf h
  by_cases hm : m = 0
  · subst hm
    rw [Nat.zero_mul, scale_zero s (p + -23) p, k, h]
  · rw [scale_same s m p hm, k, h]
theorem wid_read_eq {a b : Nat} (h : Ieee.single.read a = Ieee.single.read b) : wid a = wid b := by
  unfold wid FloatKind.encode FloatKind.decode
  rw [show FloatKind.f32.format = Ieee.single from rfl, h]
theorem step_one (m : M4) (hm : m.ok) (s : Nat × Nat) (x : Nat) : stepS (dampM 1065353216 m) s x = stepS m s x := by
  obtain ⟨n1, n2, n3, n4⟩ := hm.nums
  have e1 := wid_read_eq (mul_one_read n1)
  have e2 := wid_read_eq (mul_one_read n2)
  unfold stepS mulSre mulSim dampM
  simp only [e1, e2]
theorem stepAll_one (ms : List M4) (hms : ∀ m ∈ ms, m.ok) (x : Nat) : ∀ ss, stepAll (ms.map (dampM 1065353216)) ss x = stepAll ms ss x := by
  unfold stepAll
  induction ms with
  | nil => intro ss; rfl
  | cons m l ih =>
    intro ss
    cases ss with
    | nil => rfl
    | cons s ss =>
      simp only [List.map_cons, List.zipWith_cons_cons]
      rw [step_one m (hms m (List.mem_cons_self ..)), ih (fun m hm => hms m (List.mem_cons_of_mem _ hm))]
theorem tAt_one (ms : List M4) (hms : ∀ m ∈ ms, m.ok) (f : Nat) (x : Nat → Nat) : ∀ i, tAt ms (ms.map (dampM 1065353216)) f x i = stAt ms x i
  | 0 => rfl
  | i + 1 => by
    unfold tAt stAt
    rw [tAt_one ms hms f x i]
    split
    · rw [stepAll_one ms hms]
    · rfl
theorem stAt_one (ms : List M4) (hms : ∀ m ∈ ms, m.ok) (x : Nat → Nat) : ∀ i, stAt (ms.map (dampM 1065353216)) x i = stAt ms x i
  | 0 => by simp [stAt]
  | i + 1 => by
    unfold stAt
    rw [stAt_one ms hms x i, stepAll_one ms hms]
theorem tAt_never (ms ds : List M4) (f : Nat) (x : Nat → Nat) : ∀ i, i ≤ f → tAt ms ds f x i = stAt ms x i
  | 0, _ => rfl
  | i + 1, h => by
    unfold tAt stAt
    rw [tAt_never ms ds f x i (by omega), if_neg (by omega)]
theorem tAt_once (ms ds : List M4) (hl : ds.length = ms.length) (x : Nat → Nat) : ∀ i, tAt ms ds 0 x i = stAt ds x i
  | 0 => by simp [tAt, stAt, hl, List.map_const']
  | i + 1 => by
    unfold tAt stAt
    rw [tAt_once ms ds hl x i, if_pos (Nat.zero_le _)]

theorem touch_one (ms : List M4) (hms : ∀ m ∈ ms, m.ok) (f n : Nat) (x : Nat → Nat) (h1 : RingOk ms x n) (h2 : RingOk (ms.map (dampM 1065353216)) x n) :
    TouchOk ms (ms.map (dampM 1065353216)) f x n ∧ touchS ms (ms.map (dampM 1065353216)) f x n = ringS ms x n := by
  constructor
  · intro i hi
    rw [tAt_one ms hms, tAt_one ms hms]
    refine ⟨?_, (h1 i hi).2⟩
    split
    · have h := (h2 i hi).1
      rw [stAt_one ms hms] at h
      exact h
    · exact (h1 i hi).1
  · unfold touchS ringS
    simp only [tAt_one ms hms]
theorem touch_never (ms ds : List M4) (n : Nat) (x : Nat → Nat) (h1 : RingOk ms x n) : TouchOk ms ds n x n ∧ touchS ms ds n x n = ringS ms x n := by
  constructor
  · intro i hi
    rw [tAt_never ms ds n x i (by omega), tAt_never ms ds n x (i + 1) (by omega), if_neg (by omega)]
    exact h1 i hi
  · unfold touchS ringS
    apply List.map_congr_left
    intro i hi
    rw [tAt_never ms ds n x (i + 1) (by have := List.mem_range.1 hi; omega)]
theorem touch_once (ms ds : List M4) (hl : ds.length = ms.length) (n : Nat) (x : Nat → Nat) (h1 : RingOk ds x n) : TouchOk ms ds 0 x n ∧ touchS ms ds 0 x n = ringS ds x n := by
  constructor
  · intro i hi
    rw [tAt_once ms ds hl, tAt_once ms ds hl, if_pos (Nat.zero_le _)]
    exact h1 i hi
  · unfold touchS ringS
    simp only [tAt_once ms ds hl]

/-! ### where nothing overflows -/
theorem ring_small (ms : List M4) (hms : ∀ m ∈ ms, m.ok) (q n : Nat) (hq : ms.length = q) (hq5 : q ≤ 5) (hn : n ≤ 100) (xs : List Nat) (hxs : xs.length ≤ 20) (hsm : ∀ x ∈ xs, Sm x ∧ Flo.Ab (S x) 5) :
    RingOk ms (inputOf xs) n ∧ ∀ x ∈ ringS ms (inputOf xs) n, Sm x := by
  have hG : rs gm ms ≤ 10240 ∧ 0 ≤ rs gm ms := by
    have h1 := rs_max gm 2048 ms (fun m hm => (gain_ok m (hms m hm)).2.2)
    have h2 : (ms.length : Rat) ≤ 5 := by
      have : ((ms.length : Nat) : Rat) ≤ ((5 : Nat) : Rat) := by exact_mod_cast (by omega : ms.length ≤ 5)
      exact this
    exact ⟨by grind, rs_nonneg gm _ (fun m _ => gm_nonneg m)⟩
  have hX : xsum xs ≤ 100 := by
    have h1 := xsum_le xs 5 (fun x hx => ra_le (hsm x hx).2)
    have h2 : ((xs.length : Nat) : Rat) ≤ ((20 : Nat) : Rat) := by exact_mod_cast hxs
    have h3 : ((20 : Nat) : Rat) = 20 := rfl
    grind
  have hgx : rs gm ms * xsum xs ≤ 1024000 := by
    have h1 := Rat.mul_le_mul_of_nonneg_right hG.1 (xsum_nonneg xs)
    grind
  have hP100 : (1024000 : Rat) ≤ Flo.pw 100 := by
    have h1 : Flo.pw 40 ≤ Flo.pw 100 := Flo.pw_le (by omega)
    rw [show Flo.pw 40 = 1099511627776 from Flo.pw_nat 40] at h1
    grind
  have hD := drift_ok ms hms (inputOf xs) n q hq (by omega) (by omega) (by
      intro i _
      by_cases hi : i < xs.length
      · have e : xs[i]? = some xs[i] := List.getElem?_eq_getElem hi
        rw [show inputOf xs i = xs[i] from by unfold inputOf; rw [List.getD_eq_getElem?_getD, e]; rfl]
        exact (hsm _ (List.getElem_mem hi)).1
      · rw [show inputOf xs i = 0 from by unfold inputOf; rw [List.getD_eq_getElem?_getD, List.getElem?_eq_none (by omega)]; rfl]
        exact zero_single.1) (xsum xs) (fun i _ => by rw [psum_xsum]; exact xsum_take_le _ i) (xsum_nonneg _) (by grind)
  refine ⟨hD.1, fun x hx => ?_⟩
  obtain ⟨i, hi, rfl⟩ := List.mem_map.1 hx
  exact (hD.2.2.1 i (List.mem_range.1 hi)).1

/-! ### the factors -/
def facB (z : Nat) : Nat := opB .quo .f32 (floatOfInt .f32 (z : Int)) 1132396544
def facOk (z : Nat) : Bool := (floatBits .quo .f32 (floatOfInt .f32 (z : Int)) 1132396544).isSome && fin .f32 (facB z) &&
  (FloatKind.f32.format.order (facB z) 0 == some .gt || FloatKind.f32.format.order (facB z) 0 == some .eq) && (FloatKind.f32.format.order (facB z) 1065353216 == some .lt || FloatKind.f32.format.order (facB z) 1065353216 == some .eq)
set_option maxRecDepth 100000 in
theorem fac_all : ((List.range 256).all facOk) = true := by decide +kernel
theorem fac_ok (z : Nat) (hz : z ≤ 255) : Calm .quo .f32 (floatOfInt .f32 (z : Int)) 1132396544 ∧ Sm (facB z) ∧ 0 ≤ S (facB z) ∧ S (facB z) ≤ 1 := by
  have h := fac_all
  rw [List.all_eq_true] at h
  have h := h z (List.mem_range.2 (by omega))
  unfold facOk at h
  simp only [Bool.and_eq_true] at h
  obtain ⟨⟨⟨h1, h2⟩, h3⟩, h4⟩ := h
  obtain ⟨r, hr⟩ := Option.isSome_iff_exists.1 h1
  have sm := Sm_of h2
  have n1 : Sm 1065353216 ∧ S 1065353216 = 1 := by
    have h : Ieee.single.read 1065353216 = .number false 8388608 (-23) := by decide
    refine ⟨⟨_, _, _, h⟩, ?_⟩
    rw [show S 1065353216 = _ from Flo.V_eq h]
    unfold Flo.val
    have := Flo.pw_neg_mul 23
    rw [show Flo.pw 23 = 8388608 from Flo.pw_nat 23] at this
    simp only [Bool.false_eq_true, if_false]
    have e2 : ((8388608 : Nat) : Rat) = 8388608 := rfl
    rw [e2]; grind
  have o0 := Flo.order_num Ieee.single (facB z) 0 sm zero_single.1
  have o1 := Flo.order_num Ieee.single (facB z) 1065353216 sm n1.1
  have z0 : Flo.V Ieee.single 0 = 0 := zero_single.2
  have z1 : Flo.V Ieee.single 1065353216 = 1 := n1.2
  rw [show FloatKind.f32.format = Ieee.single from rfl, Bool.or_eq_true, beq_iff_eq, beq_iff_eq, o0.2.2, o0.2.1, z0] at h3
  rw [show FloatKind.f32.format = Ieee.single from rfl, Bool.or_eq_true, beq_iff_eq, beq_iff_eq, o1.1, o1.2.1, z1] at h4
  have h3' : 0 < S (facB z) ∨ S (facB z) = 0 := h3
  have h4' : S (facB z) < 1 ∨ S (facB z) = 1 := h4
  exact ⟨(Calm.of hr).1, sm, by grind, by grind⟩

end Go.Proofs.YtnmjkjjmigiabaaGreatDoor

/- One step of a body whose numbers may be infinite or NaN: the states as told, the output but for the bits of NaN; and any step at all.
   Conditions: those that each statement names. -/
namespace Go.Proofs.YtnmjkjjmigiabaaGreatDoor
set_option linter.unusedSimpArgs false
set_option linter.unusedVariables false
open Go Go.RowKit

/-- the output, but for the bits of NaN -/
def outA (ss : List (Nat × Nat)) : Option Nat := ss.foldl (fun o s => fA .add .f32 o (fab .f32 s.1)) (fab .f32 0)
theorem outA_take (ss : List (Nat × Nat)) (k : Nat) (s : Nat × Nat) (h : ss[k]? = some s) : outA (ss.take (k + 1)) = fA .add .f32 (outA (ss.take k)) (fab .f32 s.1) := by
  obtain ⟨hk, he⟩ := List.getElem?_eq_some_iff.1 h
  unfold outA
  rw [List.take_succ_eq_append_getElem hk, List.foldl_append, he]; rfl
theorem cellsC_at {ss : List (Nat × Nat)} {k : Nat} {s : Nat × Nat} (h : ss[k]? = some s) : (cellsC ss)[k]? = some (.complex .f32 s.1 s.2) := by unfold cellsC; rw [List.getElem?_map, h]; rfl
theorem cellsC_set (ss : List (Nat × Nat)) (k : Nat) (s : Nat × Nat) : (cellsC ss).set k (.complex .f32 s.1 s.2) = cellsC (ss.set k s) := by unfold cellsC; rw [List.map_set]

def StepsA (gs bs n : Nat) (ss' : List (Nat × Nat)) (w : World) (e : Ending) (w' : World) : Prop :=
  (∃ y, e = .returned (.float .f32 y) ∧ fab .f32 y = outA ss') ∧ w'.ownsRow bs 91 1 (.slice (some ⟨gs, 0, none⟩) n n) n (cellsC ss') ∧ w.grownBy w' (some gs)
def StepsAI (ms : List M4) (ss : List (Nat × Nat)) (x gs bs n : Nat) (w : World) (y i : Value) (wr : World) : Prop :=
  ∃ k b : Nat, k ≤ n ∧ i = .int .i64 (k : Int) ∧ y = .float .f32 b ∧ fab .f32 b = outA ((stepAll ms ss x).take k) ∧ wr.ownsRow bs 91 1 (.slice (some ⟨gs, 0, none⟩) n n) n (cellsC (mixed ms ss x k)) ∧ w.grownBy wr (some gs)
def StepsN (gs bs n : Nat) (w : World) (e : Ending) (w' : World) : Prop :=
  ∃ y, e = .returned (.float .f32 y) ∧ ∃ sr : List (Nat × Nat), sr.length = n ∧ w'.ownsRow bs 91 1 (.slice (some ⟨gs, 0, none⟩) n n) n (cellsC sr) ∧ w.grownBy w' (some gs)
def StepsNI (gs bs n : Nat) (w : World) (y i : Value) (wr : World) : Prop :=
  ∃ (k b : Nat) (sr : List (Nat × Nat)), k ≤ n ∧ i = .int .i64 (k : Int) ∧ y = .float .f32 b ∧ sr.length = n ∧ wr.ownsRow bs 91 1 (.slice (some ⟨gs, 0, none⟩) n n) n (cellsC sr) ∧ w.grownBy wr (some gs)

/-! ### whatever the numbers -/
def AnyC (k : FloatKind) (w : World) (e : Ending) (w' : World) : Prop := ∃ r s, e = .returned (.complex k r s) ∧ Nw w w'
theorem nw_nat (w : World) (n : Nat) : Nw w (w.drewN n) := (Nw.refl w).draw n
theorem widenN_any (a b : Nat) (w : World) : Calls Tryz.prog 184 #[.complex .f32 a b] w (AnyC .f64 w) := by
  go_enter Tryz.func184, Tryz.ntmps184
  go_wp2
  all_goals (go_ret; exact ⟨_, _, rfl, nw_nat _ _⟩)
end Go.Proofs.YtnmjkjjmigiabaaGreatDoor

/- A bow's first ten steps in plain numbers: nothing overflows; and one step behind them, which may be infinite, but is the same each time.
   Conditions: those that each statement names. -/
namespace Go.Proofs.YtnmjkjjmigiabaaGreatDoor
set_option linter.unusedSimpArgs false
set_option linter.unusedVariables false
open Go Go.RowKit

theorem calm_some {o : BinOp} {k : FloatKind} {x y : Nat} (h : floatBits o k x y ≠ none) : Calm o k x y := by
  unfold Calm opB
  cases hb : floatBits o k x y with
  | some r => rfl
  | none => exact absurd hb h
theorem calm_mul_num (a b : Nat) (ha : Sm a) (hb : Sm b) : Calm .mul .f32 a b := by
  obtain ⟨s, m, i, ha⟩ := ha
  obtain ⟨t, n, j, hb⟩ := hb
  refine calm_some ?_
  show Ieee.single.mul a b ≠ none
  unfold Ieee.Format.mul
  rw [ha, hb]
  simp [Ieee.Datum.product]
theorem calm_add_num (a b : Nat) (ha : Sm a) (hb : (FloatKind.f32.decode b).isNaN = false) : Calm .add .f32 a b := by
  obtain ⟨s, m, i, ha⟩ := ha
  refine calm_some ?_
  show Ieee.single.add a b ≠ none
  unfold Ieee.Format.add
  unfold FloatKind.decode at hb
  rw [ha]
  cases hr : Ieee.single.read b with
  | nan t f => rw [show FloatKind.f32.format.read b = _ from hr] at hb; simp [Ieee.Datum.isNaN] at hb
  | infinity t => simp [Ieee.Datum.sum]
  | number t n j => simp [Ieee.Datum.sum]

/-- the product of a state and a pole -/
structure ProdOk (m : M4) (s : Nat × Nat) (T : Rat) : Prop where
  p1 : ∃ e D K, PartOk .sub s.1 m.pr s.2 m.pi e D K
  p2 : ∃ e D K, PartOk .add s.1 m.pi s.2 m.pr e D K
  n1 : Sm (mulSre s.1 s.2 m.pr m.pi)
  n2 : Sm (mulSim s.1 s.2 m.pr m.pi)
  b1 : Flo.Ab (S (mulSre s.1 s.2 m.pr m.pi)) (5 * T + 1)
  b2 : Flo.Ab (S (mulSim s.1 s.2 m.pr m.pi)) (5 * T + 1)
theorem prod_near (D T v es : Rat) (hT : 0 ≤ T) (hD : D = 4 * T) (ve : v * 16777216 = 1) (es1 : es ≤ 1 / 1048576) : D + (D * v + (D + 2 * T) * v / 16777216 + 2 * es) ≤ 5 * T + 1 := by
  have hv : v = 1 / 16777216 := by grind
  subst hv; subst hD
  grind
theorem prod_ok (m : M4) (hm : m.ok) (s : Nat × Nat) (h1 : Sm s.1) (h2 : Sm s.2) (T : Rat) (r1 : Flo.Ab (S s.1) T) (r2 : Flo.Ab (S s.2) T) (hT : T ≤ Flo.pw 118) : ProdOk m s T := by
  obtain ⟨n1, n2, n3, n4⟩ := hm.nums
  obtain ⟨q1, q2⟩ := hm.pole
  have hT0 := r1.nonneg
  have l1 : Flo.pw 120 = 4 * Flo.pw 118 := by rw [show (120 : Int) = 2 + 118 from rfl, Flo.pw_add, show Flo.pw 2 = 4 from Flo.pw_nat 2]
  have l2 := Flo.pw_lt (a := 120) (b := 125) (by omega)
  have l3 := Flo.pw_pos 118
  have k1 : Flo.Ab (S s.1 * S m.pr) (2 * T) := (r1.mul q1).mono (by grind)
  have k2 : Flo.Ab (S s.2 * S m.pi) (2 * T) := (r2.mul q2).mono (by grind)
  have k3 : Flo.Ab (S s.1 * S m.pi) (2 * T) := (r1.mul q2).mono (by grind)
  have k4 : Flo.Ab (S s.2 * S m.pr) (2 * T) := (r2.mul q1).mono (by grind)
  have d1 : Flo.Ab (S s.1 * S m.pr - S s.2 * S m.pi) (4 * T) := (k1.sub k2).mono (by grind)
  have d2 : Flo.Ab (S s.1 * S m.pi + S s.2 * S m.pr) (4 * T) := (k3.add k4).mono (by grind)
  have P1 := part_sub s.1 m.pr s.2 m.pi h1 n1 h2 n2 (2 * T) (4 * T) k1 k2 d1 (by grind) (by grind)
  have P2 := part_add s.1 m.pi s.2 m.pr h1 n2 h2 n1 (2 * T) (4 * T) k3 k4 d2 (by grind) (by grind)
  have hb := prod_near (4 * T) T Flo.v Flo.es hT0 rfl Flo.v_eq small'.es1
  refine ⟨⟨_, _, _, P1⟩, ⟨_, _, _, P2⟩, P1.num, P2.num, ?_, ?_⟩
  · exact ((d1.add P1.near).eq (by unfold mulSre; grind)).mono hb
  · exact ((d2.add P2.near).eq (by unfold mulSim; grind)).mono hb

/-- A STEP THAT MAY BE INFINITE, but is no NaN and draws nothing. -/
theorem step_wide (m : M4) (hm : m.ok) (s : Nat × Nat) (x : Nat) (h1 : Sm s.1) (h2 : Sm s.2) (hx : Sm x) (T : Rat) (r1 : Flo.Ab (S s.1) T) (r2 : Flo.Ab (S s.2) T) (hT : T ≤ Flo.pw 118) : StepOk m s x := by
  obtain ⟨n1, n2, n3, n4⟩ := hm.nums
  have P := prod_ok m hm s h1 h2 T r1 r2 hT
  have c1 := calm_mul_num m.gr x n3 hx
  have c2 := calm_mul_num m.gi x n4 hx
  exact ⟨h1, h2, P.p1, P.p2, c1, c2, calm_add_num _ _ P.n1 (floatBits_not_nan c1).1, calm_add_num _ _ P.n2 (floatBits_not_nan c2).1⟩

theorem grow_num (T F v es : Rat) (hT : 0 ≤ T) (hF : 0 ≤ F) (ve : v * 16777216 = 1) (e0 : 0 < es) (es1 : es ≤ 1 / 1048576) :
    (5 * T + 1 + (1024 * F + (1024 * F * v + es))) + ((5 * T + 1 + (1024 * F + (1024 * F * v + es))) * v + es) ≤ 6 * T + 1025 * F + 2 := by
  have hv : v = 1 / 16777216 := by grind
  subst hv
  grind
theorem part_grow (p g x : Nat) (T F : Rat) (hp : Sm p) (hg : Sm g) (hx : Sm x) (hT : 0 ≤ T) (bp : Flo.Ab (S p) (5 * T + 1)) (bg : Flo.Ab (S g) 1024) (bx : Flo.Ab (S x) F) (hTt : T ≤ Flo.pw 118) (hFt : F ≤ Flo.pw 110) :
    Sm (opB .add .f32 p (opB .mul .f32 g x)) ∧ Flo.Ab (S (opB .add .f32 p (opB .mul .f32 g x))) (6 * T + 1025 * F + 2) := by
  have l1 : Flo.pw 126 = 256 * Flo.pw 118 := by rw [show (126 : Int) = 8 + 118 from rfl, Flo.pw_add, show Flo.pw 8 = 256 from Flo.pw_nat 8]
  have l2 : Flo.pw 126 = 65536 * Flo.pw 110 := by rw [show (126 : Int) = 16 + 110 from rfl, Flo.pw_add, show Flo.pw 16 = 65536 from Flo.pw_nat 16]
  have l3 := Flo.pw_lt (a := 126) (b := 127) (by omega)
  have l4 : 1 ≤ Flo.pw 110 := by rw [← Flo.pw_zero]; exact Flo.pw_le (by omega)
  have es1 := small'.es1
  have es0 := Flo.es_pos
  have ve := Flo.v_eq
  have hv : Flo.v = 1 / 16777216 := by grind
  have hF0 := bx.nonneg
  obtain ⟨g1, a1, a2, a3⟩ := Flo.s_mul g x hg hx (1024 * F) (bg.mul bx) (by grind)
  obtain ⟨-, b1⟩ := Calm.of a1
  have bg1 : Flo.Ab (S g1) (1024 * F + (1024 * F * Flo.v + Flo.es)) := ((bg.mul bx).add a3).eq (by grind)
  have hs : Flo.Ab (S p + S g1) (5 * T + 1 + (1024 * F + (1024 * F * Flo.v + Flo.es))) := bp.add bg1
  obtain ⟨r, r1, r2, r3⟩ := Flo.s_add p g1 hp a2 _ hs (by rw [hv]; grind)
  obtain ⟨-, b2⟩ := Calm.of r1
  rw [b1, b2]
  exact ⟨r2, ((hs.add r3).eq (by grind)).mono (grow_num T F Flo.v Flo.es hT hF0 ve es0 es1)⟩
/-- A STEP OF THE FIRST TEN: finite, and its parts are bounded. -/
theorem step_grow (m : M4) (hm : m.ok) (s : Nat × Nat) (x : Nat) (h1 : Sm s.1) (h2 : Sm s.2) (hx : Sm x) (T F : Rat) (r1 : Flo.Ab (S s.1) T) (r2 : Flo.Ab (S s.2) T) (bx : Flo.Ab (S x) F) (bg1 : Flo.Ab (S m.gr) 1024) (bg2 : Flo.Ab (S m.gi) 1024) (hT : T ≤ Flo.pw 118) (hF : F ≤ Flo.pw 110) :
    StepOk m s x ∧ Sm (stepS m s x).1 ∧ Sm (stepS m s x).2 ∧ Flo.Ab (S (stepS m s x).1) (6 * T + 1025 * F + 2) ∧ Flo.Ab (S (stepS m s x).2) (6 * T + 1025 * F + 2) := by
  obtain ⟨n1, n2, n3, n4⟩ := hm.nums
  have P := prod_ok m hm s h1 h2 T r1 r2 hT
  obtain ⟨a1, a2⟩ := part_grow _ m.gr x T F P.n1 n3 hx r1.nonneg P.b1 bg1 bx hT hF
  obtain ⟨c1, c2⟩ := part_grow _ m.gi x T F P.n2 n4 hx r1.nonneg P.b2 bg2 bx hT hF
  exact ⟨step_wide m hm s x h1 h2 hx T r1 r2 hT, a1, c1, a2, c2⟩

end Go.Proofs.YtnmjkjjmigiabaaGreatDoor

/- Plain facts on rooms: weights make no gain greater, a gain of 0 rings as nothing, a weight of 1 changes nothing. No program stands in it.
   Conditions: those that each statement names. -/
namespace Go.Proofs.YtnmjkjjmigiabaaGreatDoor
set_option linter.unusedSimpArgs false
set_option linter.unusedVariables false
open Go

theorem ra_one {q : Rat} (h : Flo.Ab q 1) : ra q ≤ 1 := ra_le h
/-- a weight from -1 to 1 makes no part greater -/
theorem wt_part (q t : Nat) (hq : Sm q) (ht : Wt t) (hb : ra (S q) ≤ 2048) :
    Calm .mul .f32 q t ∧ Sm (opB .mul .f32 q t) ∧ ra (S (opB .mul .f32 q t)) ≤ ra (S q) := by
  have n1 := one_s
  have l1 : (2048 : Rat) < Flo.pw 127 := by
    have : Flo.pw 11 < Flo.pw 127 := Flo.pw_lt (by omega)
    rw [show Flo.pw 11 = 2048 from Flo.pw_nat 11] at this
    exact this
  have hqn := ra_nonneg (S q)
  have hm := Rat.mul_le_mul_of_nonneg_left (ra_one ht.2) hqn
  obtain ⟨r, r', e1, e2, e3, e4, e5⟩ := Flo.mul_mono Ieee.single (by decide) q t q 1065353216 hq ht.1 hq n1.1
    (by rw [ra_mul, ra_mul, show Flo.V Ieee.single 1065353216 = 1 from n1.2, ra_pos (show (0:Rat) ≤ 1 by grind)]; exact hm)
    (by rw [ra_mul, show Flo.V Ieee.single 1065353216 = 1 from n1.2, ra_pos (show (0:Rat) ≤ 1 by grind), show Flo.top Ieee.single = 127 from by decide]; show ra (S q) * 1 < _; grind)
  obtain ⟨z, z1, z2, z3⟩ := Flo.mul_fix Ieee.single (by decide) q 1065353216 q hq n1.1 hq
    (by rw [show Flo.V Ieee.single 1065353216 = 1 from n1.2, show Flo.V Ieee.single q * 1 = Flo.V Ieee.single q by grind])
    (by rw [show Flo.top Ieee.single = 127 from by decide]; show ra (S q) < _; grind)
  rw [e2] at z1
  cases z1
  rw [z3, show Flo.V Ieee.single 1065353216 = 1 from n1.2, show Flo.V Ieee.single q * 1 = Flo.V Ieee.single q by grind] at e5
  obtain ⟨c1, b1⟩ := Calm.of (show floatBits .mul .f32 q t = some r from e1)
  rw [b1]
  exact ⟨c1, e3, e5⟩
theorem wt_mul (a b : Nat) (ha : Wt a) (hb : Wt b) : Calm .mul .f32 a b ∧ Wt (opB .mul .f32 a b) := by
  have h1 := ra_one ha.2
  obtain ⟨c, s, l⟩ := wt_part a b ha.1 hb (by grind)
  refine ⟨c, s, ?_⟩
  have := ra_ab (S (opB .mul .f32 a b))
  unfold Flo.Ab at *
  constructor <;> grind
theorem wt_zero : Wt 0 := ⟨nil_s.1, by rw [nil_s.2]; constructor <;> grind⟩
theorem wt_one : Wt 1065353216 := ⟨one_s.1, by rw [one_s.2]; constructor <;> grind⟩
theorem mulB_comm (a b : Nat) : opB .mul .f32 a b = opB .mul .f32 b a := by
  show (Ieee.single.mul a b).getD 0 = (Ieee.single.mul b a).getD 0
  rw [Flo.mul_comm']

/-! ### weighed modes -/
def weighM (w : Nat) (m : M4) : M4 := ⟨m.pr, m.pi, opB .mul .f32 m.gr w, opB .mul .f32 m.gi w⟩
theorem gain_2048 {m : M4} (h : m.ok) : ra (S m.gr) ≤ 2048 ∧ ra (S m.gi) ≤ 2048 := by
  have := (gain_ok m h).2.2
  have h1 := ra_nonneg (S m.gr)
  have h2 := ra_nonneg (S m.gi)
  unfold gm at this
  constructor <;> grind
theorem labs_1024 {g g' : Nat} (hg : Sm g) (hg' : Sm g') (hl : ra (S g') ≤ ra (S g)) (h : leB (labs (wid g)) 4652218415073722368 = true) : leB (labs (wid g')) 4652218415073722368 = true := by
  obtain ⟨n, v⟩ := wid_num hg
  obtain ⟨n', v'⟩ := wid_num hg'
  obtain ⟨l, lv⟩ := labs_num _ (wid_lt g) n
  obtain ⟨l', lv'⟩ := labs_num _ (wid_lt g') n'
  have h1 := (leB_iff l num_1024).1 h
  refine (leB_iff l' num_1024).2 ?_
  rw [lv, v] at h1
  rw [lv', v']
  grind
theorem weighM_calm (m : M4) (w : Nat) (h : m.ok) (hw : Wt w) : Calm .mul .f32 m.gr w ∧ Calm .mul .f32 m.gi w := by
  obtain ⟨s1, s2, s3, s4⟩ := h.nums
  obtain ⟨b1, b2⟩ := gain_2048 h
  exact ⟨(wt_part m.gr w s3 hw b1).1, (wt_part m.gi w s4 hw b2).1⟩
theorem weighM_ok (m : M4) (w : Nat) (h : m.ok) (hw : Wt w) : (weighM w m).ok := by
  obtain ⟨s1, s2, s3, s4⟩ := h.nums
  obtain ⟨b1, b2⟩ := gain_2048 h
  obtain ⟨f1, f2, f3, f4, f5, f6, f7⟩ := Valid.parts h
  obtain ⟨-, a1, a2⟩ := wt_part m.gr w s3 hw b1
  obtain ⟨-, c1, c2⟩ := wt_part m.gi w s4 hw b2
  show modeB m.pr m.pi (opB .mul .f32 m.gr w) (opB .mul .f32 m.gi w) labs = true
  unfold modeB
  rw [f1, f2, f5, (fin_iff' .f32 _).2 a1, (fin_iff' .f32 _).2 c1, labs_1024 s3 a1 a2 f6, labs_1024 s4 c1 c2 f7]
  rfl

/-- the modes, each weighed by its weight -/
def weighL (ms : List M4) (ws : List Nat) : List M4 := List.zipWith (fun m w => weighM w m) ms ws
theorem weighL_len (ms : List M4) (ws : List Nat) (h : ws.length = ms.length) : (weighL ms ws).length = ms.length := by simp [weighL, h]
theorem weighL_at (ms : List M4) (ws : List Nat) (k : Nat) (m : M4) (w : Nat) (h1 : ms[k]? = some m) (h2 : ws[k]? = some w) : (weighL ms ws)[k]? = some (weighM w m) := by
  unfold weighL; rw [List.getElem?_zipWith, h1, h2]
theorem zipw_mem {α β γ : Type} (f : α → β → γ) : ∀ (xs : List α) (ys : List β) (z : γ), z ∈ List.zipWith f xs ys → ∃ x ∈ xs, ∃ y ∈ ys, z = f x y
  | [], _, _, h => by simp at h
  | x :: xs, [], _, h => by simp at h
  | x :: xs, y :: ys, z, h => by
    simp only [List.zipWith_cons_cons] at h
    rcases List.mem_cons.1 h with h | h
    · exact ⟨x, List.mem_cons_self .., y, List.mem_cons_self .., h⟩
    · obtain ⟨a, ha, b, hb, e⟩ := zipw_mem f xs ys z h
      exact ⟨a, List.mem_cons_of_mem _ ha, b, List.mem_cons_of_mem _ hb, e⟩
theorem weighL_ok (ms : List M4) (ws : List Nat) (h : ∀ m ∈ ms, m.ok) (hw : ∀ w ∈ ws, Wt w) : ∀ m ∈ weighL ms ws, m.ok := by
  intro m hm
  obtain ⟨m0, h0, w, h1, rfl⟩ := zipw_mem _ _ _ _ hm
  exact weighM_ok m0 w (h m0 h0) (hw w h1)
/-- products of weights -/
def mulW (a b : List Nat) : List Nat := List.zipWith (fun x y => opB .mul .f32 x y) a b
theorem mulW_len (a b : List Nat) (h : a.length = b.length) : (mulW a b).length = a.length := by simp [mulW, h]
theorem mulW_comm : ∀ (a b : List Nat), mulW a b = mulW b a
  | [], [] => rfl
  | [], _ :: _ => rfl
  | _ :: _, [] => rfl
  | x :: xs, y :: ys => by
    show opB .mul .f32 x y :: mulW xs ys = opB .mul .f32 y x :: mulW ys xs
    rw [mulB_comm x y, mulW_comm xs ys]
theorem mulW_wt (a b : List Nat) (ha : ∀ x ∈ a, Wt x) (hb : ∀ x ∈ b, Wt x) : ∀ x ∈ mulW a b, Wt x := by
  intro x hx
  obtain ⟨p, hp, q, hq, rfl⟩ := zipw_mem _ _ _ _ hx
  exact (wt_mul p q (ha p hp) (hb q hq)).2

/-! ### what is read decides -/
theorem mul_read {a b x : Nat} (h : Ieee.single.read a = Ieee.single.read b) : opB .mul .f32 x a = opB .mul .f32 x b := by
  show (Ieee.single.mul x a).getD 0 = (Ieee.single.mul x b).getD 0
  unfold Ieee.Format.mul; rw [h]
theorem add_read {a b x : Nat} (h : Ieee.single.read a = Ieee.single.read b) : opB .add .f32 x a = opB .add .f32 x b := by
  show (Ieee.single.add x a).getD 0 = (Ieee.single.add x b).getD 0
  unfold Ieee.Format.add; rw [h]
theorem calm_add_read {a b x : Nat} (h : Ieee.single.read a = Ieee.single.read b) (c : Calm .add .f32 x b) : Calm .add .f32 x a := by
  refine calm_some (fun e => ?_)
  have h2 : floatBits .add .f32 x a = floatBits .add .f32 x b := by
    show Ieee.single.add x a = Ieee.single.add x b
    unfold Ieee.Format.add; rw [h]
  rw [h2, c] at e
  cases e
/-- weights of 1 -/
theorem weigh_ones : ∀ (ms : List M4) (ws : List Nat), (∀ w ∈ ws, Sm w) → weighL ms (mulW ws (List.replicate ws.length 1065353216)) = weighL ms ws
  | [], ws, _ => by simp [weighL]
  | m :: ms, [], _ => by simp [weighL, mulW]
  | m :: ms, w :: ws, h => by
    show weighM (opB .mul .f32 w 1065353216) m :: weighL ms (mulW ws (List.replicate ws.length 1065353216)) = weighM w m :: weighL ms ws
    rw [weigh_ones ms ws (fun w hw => h w (List.mem_cons_of_mem _ hw))]
    have r := mul_one_read (h w (List.mem_cons_self ..))
    unfold weighM
    rw [mul_read r, mul_read r]

/-! ### rings of up to 16 modes -/
theorem ring_small16 (ms : List M4) (hms : ∀ m ∈ ms, m.ok) (q n : Nat) (hq : ms.length = q) (hq16 : q ≤ 16) (hn : n ≤ 100) (xs : List Nat) (hxs : xs.length ≤ 20) (hsm : ∀ x ∈ xs, Sm x ∧ Flo.Ab (S x) 5) :
    RingOk ms (inputOf xs) n ∧ ∀ x ∈ ringS ms (inputOf xs) n, Sm x := by
  have hG : rs gm ms ≤ 32768 ∧ 0 ≤ rs gm ms := by
    have h1 := rs_max gm 2048 ms (fun m hm => (gain_ok m (hms m hm)).2.2)
    have h2 : (ms.length : Rat) ≤ 16 := by
      have : ((ms.length : Nat) : Rat) ≤ ((16 : Nat) : Rat) := by exact_mod_cast (by omega : ms.length ≤ 16)
      exact this
    exact ⟨by grind, rs_nonneg gm _ (fun m _ => gm_nonneg m)⟩
  have hX : xsum xs ≤ 100 := by
    have h1 := xsum_le xs 5 (fun x hx => ra_le (hsm x hx).2)
    have h2 : ((xs.length : Nat) : Rat) ≤ ((20 : Nat) : Rat) := by exact_mod_cast hxs
    have h3 : ((20 : Nat) : Rat) = 20 := rfl
    grind
  have hgx : rs gm ms * xsum xs ≤ 3276800 := by
    have h1 := Rat.mul_le_mul_of_nonneg_right hG.1 (xsum_nonneg xs)
    grind
  have hP100 : (3276800 : Rat) ≤ Flo.pw 100 := by
    have h1 : Flo.pw 40 ≤ Flo.pw 100 := Flo.pw_le (by omega)
    rw [show Flo.pw 40 = 1099511627776 from Flo.pw_nat 40] at h1
    grind
  have hD := drift_ok ms hms (inputOf xs) n q hq (by omega) (by omega) (by
      intro i _
      by_cases hi : i < xs.length
      · have e : xs[i]? = some xs[i] := List.getElem?_eq_getElem hi
        rw [show inputOf xs i = xs[i] from by unfold inputOf; rw [List.getD_eq_getElem?_getD, e]; rfl]
        exact (hsm _ (List.getElem_mem hi)).1
      · rw [show inputOf xs i = 0 from by unfold inputOf; rw [List.getD_eq_getElem?_getD, List.getElem?_eq_none (by omega)]; rfl]
        exact zero_single.1) (xsum xs) (fun i _ => by rw [psum_xsum]; exact xsum_take_le _ i) (xsum_nonneg _) (by grind)
  refine ⟨hD.1, fun x hx => ?_⟩
  obtain ⟨i, hi, rfl⟩ := List.mem_map.1 hx
  exact (hD.2.2.1 i (List.mem_range.1 hi)).1
theorem input_sm (xs : List Nat) (h : ∀ x ∈ xs, Sm x) (i : Nat) : Sm (inputOf xs i) := by
  by_cases hi : i < xs.length
  · have e : xs[i]? = some xs[i] := List.getElem?_eq_getElem hi
    rw [show inputOf xs i = xs[i] from by unfold inputOf; rw [List.getD_eq_getElem?_getD, e]; rfl]
    exact h _ (List.getElem_mem hi)
  · rw [show inputOf xs i = 0 from by unfold inputOf; rw [List.getD_eq_getElem?_getD, List.getElem?_eq_none (by omega)]; rfl]
    exact zero_single.1

/-! ### a gain of 0 -/
def Mute (m : M4) : Prop := Flo.Zr Ieee.single m.gr ∧ Flo.Zr Ieee.single m.gi
theorem mute_state (m : M4) (hm : m.ok) (hz : Mute m) (x : Nat → Nat) (hx : ∀ i, Sm (x i)) : ∀ i, Flo.Zr Ieee.single (st1 m x i).1 ∧ Flo.Zr Ieee.single (st1 m x i).2
  | 0 => ⟨zr_zero, zr_zero⟩
  | i + 1 => by
    obtain ⟨z1, z2⟩ := mute_state m hm hz x hx i
    obtain ⟨n1, n2, n3, n4⟩ := hm.nums
    have p1 := (wid_num n1).1
    have p2 := (wid_num n2).1
    have w1 := wid_zr z1
    have w2 := wid_zr z2
    exact ⟨add_zr' (k := .f32) (nar_zr (sub_zr' (k := .f64) (mul_zr' (k := .f64) w1 p1) (mul_zr' (k := .f64) w2 p2))) (mul_zr' (k := .f32) hz.1 (hx i)),
      add_zr' (k := .f32) (nar_zr (add_zr' (k := .f64) (mul_zr' (k := .f64) w1 p2) (mul_zr' (k := .f64) w2 p1))) (mul_zr' (k := .f32) hz.2 (hx i))⟩
theorem add_zero_val {a z : Nat} (ha : Sm a) (hz : Flo.Zr Ieee.single z) : Sm (opB .add .f32 a z) ∧ S (opB .add .f32 a z) = S a := by
  obtain ⟨s, m, p, h⟩ := ha
  obtain ⟨t, j, k⟩ := hz
  obtain ⟨q, c, b, h1, h2⟩ := Flo.sum_val s t m 0 p j
  rw [Flo.val_zero] at h2
  have he : Flo.Ev Ieee.single (Ieee.single.write (.number q c b)) (Ieee.single.write (.number s m p)) := Flo.write_ev _ _ _ _ _ _ _ (by rw [h2]; grind)
  have hr := Flo.read_back Ieee.single bin_inf h
  have e : opB .add .f32 a z = Ieee.single.write (.number q c b) := by
    show (Ieee.single.add a z).getD 0 = _
    unfold Ieee.Format.add; rw [h, k, h1]; rfl
  rw [e]
  rcases he with he | ⟨⟨s1, p1, h3⟩, ⟨s2, p2, h4⟩⟩
  · rw [he]
    exact ⟨⟨_, _, _, hr⟩, by rw [show S (Ieee.single.write (.number s m p)) = _ from Flo.V_eq hr, show S a = _ from Flo.V_eq h]⟩
  · rw [hr] at h4
    injection h4 with a1 a2 a3
    subst a2
    exact ⟨⟨_, _, _, h3⟩, by rw [show S (Ieee.single.write (.number q c b)) = _ from Flo.V_eq h3, show S a = _ from Flo.V_eq h, Flo.val_zero, Flo.val_zero]⟩
theorem fold_mute : ∀ (l : List (Nat × Nat)) (a : Nat), Sm a → (∀ s ∈ l, Flo.Zr Ieee.single s.1) → Sm (l.foldl (fun y s => opB .add .f32 y s.1) a) ∧ S (l.foldl (fun y s => opB .add .f32 y s.1) a) = S a
  | [], a, h, _ => ⟨h, rfl⟩
  | s :: l, a, h, hl => by
    obtain ⟨h1, h2⟩ := add_zero_val h (hl s (List.mem_cons_self ..))
    obtain ⟨h3, h4⟩ := fold_mute l _ h1 (fun s hs => hl s (List.mem_cons_of_mem _ hs))
    exact ⟨h3, h4.trans h2⟩
theorem mute_out (A Z : List M4) (hZ : ∀ m ∈ Z, m.ok ∧ Mute m) (x : Nat → Nat) (hx : ∀ i, Sm (x i)) (i : Nat) (hs : Sm (outS (stAt A x i))) :
    Sm (outS (stAt (A ++ Z) x i)) ∧ S (outS (stAt (A ++ Z) x i)) = S (outS (stAt A x i)) := by
  rw [stAt_map] at hs ⊢
  rw [stAt_map, List.map_append]
  unfold outS at *
  rw [List.foldl_append]
  refine fold_mute _ _ hs (fun s h => ?_)
  obtain ⟨m, hm, rfl⟩ := List.mem_map.1 h
  exact (mute_state m (hZ m hm).1 (hZ m hm).2 x hx i).1
theorem val_order {a b : Nat} (ha : Sm a) (hb : Sm b) (h : S a = S b) : (FloatKind.f32.format.order a b == some .eq) = true := by
  rw [show FloatKind.f32.format = Ieee.single from rfl, beq_iff_eq]
  exact (Flo.order_num Ieee.single a b ha hb).2.1.2 h

end Go.Proofs.YtnmjkjjmigiabaaGreatDoor

/- What FnWritten asks of bodies, rooms and wide modes: they are read back.
   Conditions: those that each statement names. -/
namespace Go.Proofs.YtnmjkjjmigiabaaGreatDoor
set_option linter.unusedSimpArgs false
set_option linter.unusedVariables false
open Go Go.RowKit

theorem sixteen_w : Flo.Nm 4625196817309499392 ∧ Flo.W 4625196817309499392 = 16 := by
  have h : Ieee.double.read 4625196817309499392 = .number false 4503599627370496 (-48) := by decide
  refine ⟨⟨_, _, _, h⟩, ?_⟩
  rw [show Flo.W 4625196817309499392 = _ from Flo.V_eq h]
  unfold Flo.val
  have := Flo.pw_neg_mul 48
  rw [show Flo.pw 48 = 281474976710656 from Flo.pw_nat 48] at this
  simp only [Bool.false_eq_true, if_false]
  have e2 : ((4503599627370496 : Nat) : Rat) = 4503599627370496 := rfl
  rw [e2]; grind
theorem RowsR.g {w : World} {base q : Nat} {sv : Value} {rows : List (List Nat)} (h : RowsR w base q sv rows) : RowsG w base sv rows := by
  obtain ⟨vs, h1, h2⟩ := h
  exact ⟨vs, h1, fun p r hp => by obtain ⟨hl, v, a, b⟩ := h2 p r hp; exact ⟨v, a, by rw [hl]; exact b⟩⟩
theorem wgt_ok (x : Nat) (hx : Wt x) : wgt x = true := by
  obtain ⟨n, v⟩ := wid_num hx.1
  obtain ⟨l, lv⟩ := labs_num _ (wid_lt x) n
  exact (leB_iff l sixteen_w.1).2 (by rw [lv, v, sixteen_w.2]; have := ra_one hx.2; grind)
theorem fin_can {x : Nat} (h : Sm x) : fin .f32 (can x) = true := (fin_iff' .f32 _).2 (can_ok h).2.1
theorem okM_fin {m : M4} (h : m.ok) : m.Fin := by
  obtain ⟨a, b, c, d, -⟩ := Valid.parts h
  exact ⟨Sm_of a, Sm_of b, Sm_of c, Sm_of d⟩
theorem okM_can {m : M4} (h : m.ok) : (canM m).ok := by
  obtain ⟨a, b, c, d, e, f, g⟩ := Valid.parts h
  obtain ⟨f1, f2, f3, f4⟩ := okM_fin h
  show modeB (can m.pr) (can m.pi) (can m.gr) (can m.gi) labs = true
  unfold modeB
  rw [fin_can f1, fin_can f2, fin_can f3, fin_can f4, (can_ok f1).2.2, (can_ok f2).2.2, (can_ok f3).2.2, (can_ok f4).2.2, e, f, g]
  rfl
theorem bodyB_of {ms : List M4} (hl : ms.length ≤ 16) (h : ∀ m ∈ ms, m.ok) : bodyB ms = true := (bodyB_iff ms).2 ⟨hl, h⟩
theorem bodyB_can {ms : List M4} (hl : ms.length ≤ 16) (h : ∀ m ∈ ms, m.ok) : bodyB (ms.map canM) = true :=
  bodyB_of (by rw [List.length_map]; exact hl) (fun m hm => by obtain ⟨m0, h0, rfl⟩ := List.mem_map.1 hm; exact okM_can (h m0 h0))
theorem roomB_of {ms : List M4} {rows : List (List Nat)} (hl : ms.length ≤ 16) (h : ∀ m ∈ ms, m.ok) (hr : rows.length ≤ 16) (hq : ∀ r ∈ rows, r.length = ms.length) (hw : ∀ r ∈ rows, ∀ x ∈ r, Wt x) : roomB ms rows = true :=
  roomB_iff.2 ⟨bodyB_of hl h, hr, fun r hm => rowB_iff.2 ⟨hq r hm, fun x hx => wgt_ok x (hw r hm x hx)⟩⟩
theorem roomB_can {ms : List M4} {rows : List (List Nat)} (hl : ms.length ≤ 16) (h : ∀ m ∈ ms, m.ok) (hr : rows.length ≤ 16) (hq : ∀ r ∈ rows, r.length = ms.length) (hw : ∀ r ∈ rows, ∀ x ∈ r, Wt x) : roomB (ms.map canM) (rows.map (List.map can)) = true :=
  roomB_iff.2 ⟨bodyB_can hl h, by rw [List.length_map]; exact hr, fun r hm => by
    obtain ⟨r0, h0, rfl⟩ := List.mem_map.1 hm
    refine rowB_iff.2 ⟨by rw [List.length_map, List.length_map]; exact hq r0 h0, fun x hx => ?_⟩
    obtain ⟨x0, k0, rfl⟩ := List.mem_map.1 hx
    have := wgt_ok x0 (hw r0 h0 x0 k0)
    unfold wgt at this ⊢
    rw [(can_ok (hw r0 h0 x0 k0).1).2.2]; exact this⟩

theorem textR_one {l : List UInt8} {ms ms' : List M4} {rows rows' : List (List Nat)} (h : TextR l ms rows) (k : TextR l ms' rows') : ms = ms' ∧ rows = rows' := by
  obtain ⟨ps, qs, a1, a2, e⟩ := h
  obtain ⟨r, ls, hsp⟩ : ∃ r ls, spl 10 l = ls ++ [r] := ⟨_, _, (List.dropLast_concat_getLast (spl_ne 10 l)).symm⟩
  refine its_good hsp ?_ k
  obtain ⟨ps', qs', b1, b2, rfl⟩ := textR_lines hsp ⟨ps, qs, a1, a2, e⟩
  constructor
  · rw [List.filter_append, List.filter_eq_self.2 (fun p hp => by obtain ⟨m, hm⟩ := b1.mem p hp; rw [isP_mode hm]; rfl), List.filter_eq_nil_iff.2 (fun p hp => by obtain ⟨m, hm⟩ := b2.mem p hp; rw [isP_place hm]; simp), List.append_nil]
    exact b1.imp (fun p m _ hm => ⟨lineM_fin hm, fun m' hm' => lineM_K.val hm hm'⟩)
  · rw [List.filter_append, List.filter_eq_nil_iff.2 (fun p hp => by obtain ⟨m, hm⟩ := b1.mem p hp; rw [isP_mode hm]; simp), List.filter_eq_self.2 (fun p hp => by obtain ⟨m, hm⟩ := b2.mem p hp; exact isP_place hm), List.nil_append]
    exact b2
def PbW (ms : List M4) (b : Bool) (w : World) (e : Ending) (w' : World) : Prop :=
  ∃ v, e = .returned (.tuple #[.agg #[v], .bool b]) ∧ w'.ownsRow w.heap.size 93 2 v ms.length (cellsM ms) ∧ Nw w w'
def PrW (ms : List M4) (rows : List (List Nat)) (b : Bool) (w : World) (e : Ending) (w' : World) : Prop :=
  ∃ v u, e = .returned (.tuple #[.agg #[v, u], .bool b]) ∧ w'.ownsRow w.heap.size 93 2 v ms.length (cellsM ms) ∧ RowsG w' w.heap.size u rows ∧ Nw w w'
theorem readBackB (ms : List M4) (hl : ms.length ≤ 16) (h : ∀ m ∈ ms, m.ok) (l : List UInt8) (hT : LinesT LineM (ms.map canM) l) (hs : l.length ≤ 5000) (w : World) (hL : LibW w) :
    Calls Tryz.prog 19 #[.string ⟨l.toArray⟩] w (PbW (ms.map canM) true w) := by
  have g : GoodB l (ms.map canM) := ⟨bodyB_can hl h, hT⟩
  refine (implParseBody ⟨l.toArray⟩ (by show l.toArray.size ≤ _; simp; omega) w hL).mono ?_
  rintro e w' ⟨hn, ⟨ns, v, g2, -, rfl, own⟩ | ⟨hno, -⟩⟩
  · have e := LinesT.val lineM_K g2.2 g.2
    subst e
    exact ⟨v, rfl, own, hn⟩
  · exact absurd g (hno _)
theorem readBackR (ms : List M4) (rows : List (List Nat)) (hok : roomB ms rows = true) (l : List UInt8) (hT : TextR l ms rows) (hs : l.length ≤ 1048576) (w : World) (hL : LibW w) :
    Calls Tryz.prog 21 #[.string ⟨l.toArray⟩] w (PrW ms rows true w) := by
  have g : GoodR l ms rows := ⟨hok, hT⟩
  refine (implParseRoom ⟨l.toArray⟩ (by show l.toArray.size ≤ _; simp; omega) w hL).mono ?_
  rintro e w' ⟨hn, ⟨ns, rs, v, u, g2, rfl, own, rws⟩ | ⟨hno, -⟩⟩
  · obtain ⟨e1, e2⟩ := textR_one g2.2 g.2
    subst e1 e2
    exact ⟨v, u, rfl, own, rws.g, hn⟩
  · exact absurd g (hno ms rows)
def PwQ (ms : List W4) (w : World) (e : Ending) (w' : World) : Prop :=
  ∃ v, e = .returned (.tuple #[v, .bool true]) ∧ w'.ownsRow w.heap.size 115 2 v ms.length (cellsW ms) ∧ Nw w w'
theorem readBackW (ms : List W4) (hok : areB ms = true) (l : List UInt8) (hT : LinesT LineW ms l) (hs : l.length ≤ 5000) (w : World) (hL : LibW w) :
    Calls Tryz.prog 23 #[.string ⟨l.toArray⟩] w (PwQ ms w) := by
  have g : GoodW l ms := ⟨hok, hT⟩
  refine (implParseWide ⟨l.toArray⟩ (by show l.toArray.size ≤ _; simp; omega) w hL).mono ?_
  rintro e w' ⟨hn, ⟨ns, v, g2, rfl, own⟩ | ⟨hno, -⟩⟩
  · have e := LinesT.val lineW_K g2.2 g.2
    subst e
    exact ⟨v, rfl, own, hn⟩
  · exact absurd g (hno _)
/-- one text to each list of modes -/
theorem LinesT.one {α : Type} {L : List UInt8 → α → Prop} (hL : ∀ p q x, L p x → L q x → p = q) {ms : List α} {l l' : List UInt8} (h : LinesT L ms l) (k : LinesT L ms l') : l = l' := by
  obtain ⟨ps, a, rfl⟩ := h
  obtain ⟨qs, b, rfl⟩ := k
  have key : ∀ {ps qs : List (List UInt8)} {ms : List α}, All2 L ps ms → All2 L qs ms → ps = qs := by
    intro ps
    induction ps with
    | nil =>
      intro qs ms a b
      cases ms with
      | nil => cases qs with
        | nil => rfl
        | cons q qs => exact b.elim
      | cons m ms => exact a.elim
    | cons p ps ih =>
      intro qs ms a b
      cases ms with
      | nil => exact a.elim
      | cons m ms => cases qs with
        | nil => exact b.elim
        | cons q qs => rw [hL p q m a.1 b.1, ih a.2 b.2]
  rw [key a b]
theorem wide_fin {ms : List W4} (h : areB ms = true) (hb : ∀ m ∈ ms, m.bits) : ∀ m ∈ ms, m.Fin ∧ m.bits := fun m hm => by
  have := ((areB_iff ms).1 h).2 m hm
  unfold wideB at this
  simp only [Bool.and_eq_true] at this
  exact ⟨⟨this.1.1.1.1, this.1.1.1.2, this.1.1.2.1, this.1.1.2.2⟩, hb m hm⟩
end Go.Proofs.YtnmjkjjmigiabaaGreatDoor

/- The walk of FnWritten.
   Conditions: those that each statement names. -/
namespace Go.Proofs.YtnmjkjjmigiabaaGreatDoor
set_option linter.unusedSimpArgs false
set_option linter.unusedVariables false
open Go Go.RowKit

set_option maxRecDepth 100000 in
set_option maxHeartbeats 12800000 in
theorem written_walk (a0 : Option Addr) (len0 cap0 : Nat) (hl : len0 ≤ 1048576) (w : World) (hb : Bys w.heap.size a0 len0 w) (hL : LibW w) :
    Calls Tryz.prog 3 #[.slice a0 len0 cap0] w fun e w' => e = .returned (.bool true) ∧ Nw w w' := by
  have Hb := Lib.hid hb
  have L := Lib.hid hL
  clear hb hL
  go_enter Tryz.func3, Tryz.ntmps3
  go_wp2_with fail
  refine (makeDouble_any a0 len0 cap0 _ Hb.out).mono ?_
  rintro e w1 ⟨a, c, rfl, ha, hc, bel1⟩
  have N1 := Lib.hid ((nw_of_below bel1).draw (fcd .f64 a .f32))
  clear bel1 hc
  go_upto_region 5 with fail
  obtain ⟨x, hx⟩ : ∃ x, x = fcv w1 .f64 a .f32 := ⟨_, rfl⟩
  have hxl : x < 4294967296 := by rw [hx]; exact fcv_wf w1 .f64 a .f32 ha
  rw [← hx]
  clear hx
  obtain ⟨wd, hwd⟩ : ∃ wd, wd = w1.drewN (fcd .f64 a .f32) := ⟨_, rfl⟩
  rw [← hwd] at N1
  try rw [← hwd]
  clear hwd
  go_wp2_with fail
  refine (implText a ha _ (L.out.nw N1.out).1 (L.out.nw N1.out).2.1).mono ?_
  rintro e w2 ⟨xs, rfl, tx, n2⟩
  have T := Lib.hid tx
  have N2 := Lib.hid (N1.out.trans n2)
  clear tx n2
  go_wp2_with fail
  refine (readBackD a ha xs T.out _ (L.out.nw N2.out)).mono ?_
  rintro e w3 ⟨rfl, n3⟩
  have N3 := Lib.hid (N2.out.trans n3)
  clear n3
  obtain ⟨y, hy⟩ : ∃ y, y = (if fin .f64 a = true then a else 0) := ⟨_, rfl⟩
  obtain ⟨b, hb⟩ : ∃ b, b = fin .f64 a := ⟨_, rfl⟩
  rw [← hy, ← hb]
  rw [← hb] at hy
  have hs : ∀ w, (FloatKind.f64.format.order (fres w .sub .f64 a a) 0 == some .eq) = b := fun w => by rw [hb]; exact sub_self_fin w a
  clear hb
  go_upto_region 7 with fail
  go_cut [6, 7, 54] (fun _ _ t wx => t = .bool false ∧ Nw w3 wx)
  case first =>
    cases b with
    | true =>
      simp only [if_true] at hy
      subst hy
      go_wp2_with (go_at_call 11; refine (makeSameComplex_any _ _ _ _ _).mono ?_; rintro e w4 ⟨rfl, rfl⟩; rw [sameB_self, sameB_self])
      go_meet
      exact ⟨rfl, (Nw.refl _).draw _⟩
    | false =>
      clear hy
      go_wp2_with fail
      go_meet
      exact ⟨rfl, (Nw.refl _).draw _⟩
  case rest =>
    obtain ⟨rfl, hcut⟩ := hcut
    have N4 := Lib.hid (N3.out.trans hcut)
    clear hcut hs hy
    go_wp2_with fail
    refine (implTextS x hxl _ (L.out.nw N4.out).1 (L.out.nw N4.out).2.1).mono ?_
    rintro e w5 ⟨ys, u5, rfl, ty, n5⟩
    have Ty := Lib.hid ty
    have N5 := Lib.hid (N4.out.trans n5)
    clear ty n5
    go_wp2_with fail
    refine (readBackS x hxl ys u5 Ty.out _ (L.out.nw N5.out)).mono ?_
    rintro e w6 ⟨rfl, n6⟩
    have N6 := Lib.hid (N5.out.trans n6)
    clear n6
    obtain ⟨z, hz⟩ : ∃ z, z = (if fin .f32 x = true then x else 0) := ⟨_, rfl⟩
    obtain ⟨d, hd⟩ : ∃ d, d = fin .f32 x := ⟨_, rfl⟩
    rw [← hz, ← hd]
    rw [← hd] at hz
    have hs2 : ∀ w, (FloatKind.f32.format.order (fres w .sub .f32 x x) 0 == some .eq) = d := fun w => by rw [hd]; exact sub_self_fin32 w x
    have Hd := Lib.hid (And.intro hd hz)
    clear hd hz
    go_upto_region 10 with fail
    go_cut [8, 9, 85] (fun _ _ t wx => t = .bool false ∧ Nw w6 wx)
    case first =>
      cases d with
      | true =>
        have hz := Hd.out.2
        simp only [if_true] at hz
        rw [hz]
        clear hz
        have Hs := Lib.hid (show Sm x from Sm_of Hd.out.1.symm)
        have O1 := Lib.hid (own_litS w6 x)
        have O2 := Lib.hid (show ((w6.alloc (.cells #[.float .f32 x] 25 (0, 0))).alloc (.cells #[.float .f32 x] 25 (0, 0))).ownsRow (w6.heap.size + 1) 25 1 (.slice (some ⟨w6.heap.size + 1, 0, none⟩) 1 1) 1 (cellsS [x]) from by
          have h := own_litS (w6.alloc (.cells #[.float .f32 x] 25 (0, 0))) x
          rw [show (w6.alloc (.cells #[.float .f32 x] 25 (0, 0))).heap.size = w6.heap.size + 1 from by simp] at h
          exact h)
        have M6 := Lib.hid ((((Nw.refl w6).alloc (.cells #[.float .f32 x] 25 (0, 0))).alloc (.cells #[.float .f32 x] 25 (0, 0))).draw (fdr .sub .f32 x x))
        go_wp2_with fail
        refine (same_eq [x] [x] 1 w6.heap.size (w6.heap.size + 1) _ _ rfl rfl (by omega) _ (own_nw O1.out (((Nw.refl _).alloc _).draw _)) (own_nw O2.out ((Nw.refl _).draw _)) (fun y h => by obtain rfl := List.mem_singleton.1 h; exact Hs.out) (fun y h => by obtain rfl := List.mem_singleton.1 h; exact Hs.out) (fun k y z h1 h2 => by rw [h1] at h2; cases h2; exact sameB_self _)).mono ?_
        rintro e w7 ⟨rfl, n7⟩
        have N7 := Lib.hid (M6.out.trans n7)
        clear n7
        go_wp2_with fail
        refine (implTextS x hxl _ (L.out.nw (N6.out.trans N7.out)).1 (L.out.nw (N6.out.trans N7.out)).2.1).mono ?_
        rintro e w8 ⟨zs, u8, rfl, tz, n8⟩
        have Tz := Lib.hid tz
        have N8 := Lib.hid (N7.out.trans n8)
        clear tz n8
        go_wp2_with fail
        refine (implText _ (fcv_wf _ .f32 x .f64 hxl) _ (L.out.nw (N6.out.trans (N8.out.draw _))).1 (L.out.nw (N6.out.trans (N8.out.draw _))).2.1).mono ?_
        rintro e w9 ⟨vs, rfl, tv, n9⟩
        obtain rfl := txt_wide Tz.out tv
        have N9 := Lib.hid ((N8.out.draw _).trans n9)
        clear tv n9
        go_wp2_with fail
        go_meet
        exact ⟨rfl, N9.out⟩
      | false =>
        go_wp2_with fail
        have M6 := Lib.hid ((Nw.refl w6).draw (fdr .sub .f32 x x))
        refine (implTextS x hxl _ (L.out.nw (N6.out.trans M6.out)).1 (L.out.nw (N6.out.trans M6.out)).2.1).mono ?_
        rintro e w8 ⟨zs, u8, rfl, tz, n8⟩
        have Tz := Lib.hid tz
        have N8 := Lib.hid (M6.out.trans n8)
        clear tz n8
        go_wp2_with fail
        refine (implText _ (fcv_wf _ .f32 x .f64 hxl) _ (L.out.nw (N6.out.trans (N8.out.draw _))).1 (L.out.nw (N6.out.trans (N8.out.draw _))).2.1).mono ?_
        rintro e w9 ⟨vs, rfl, tv, n9⟩
        obtain rfl := txt_wide Tz.out tv
        have N9 := Lib.hid ((N8.out.draw _).trans n9)
        clear tv n9
        go_wp2_with fail
        go_meet
        exact ⟨rfl, N9.out⟩
    case rest =>
      obtain ⟨rfl, hcut⟩ := hcut
      have N7 := Lib.hid (N6.out.trans hcut)
      clear hcut hs2 Hd
      go_wp2_with fail
      refine (fresh_any _ _ _ 3 (by omega) (by omega) _ (bys_nw Hb.out N7.out)).mono ?_
      rintro e v1 ⟨g1, l1, c1, rfl, -, -, hf1, bel1⟩
      have P1 := Lib.hid (N7.out.trans (nw_of_below bel1))
      have F1 := Lib.hid hf1
      clear hf1 bel1
      go_wp2_with fail
      refine (makeBody_any _ _ _ 6 (by omega) (by omega) _ F1.out).mono ?_
      rintro e v2 ⟨ms, bv, rfl, hlen2, hok2, hown2, n2⟩
      obtain ⟨ba, bc, rfl⟩ := own_shape' hown2
      obtain ⟨q, hq⟩ : ∃ q, q = ms.length := ⟨_, rfl⟩
      rw [← hq] at hown2 hlen2 ⊢
      have Hq := Lib.hid hq.symm
      have Hok := Lib.hid hok2
      have hq6 : q ≤ 6 := hlen2
      have P2 := Lib.hid ((P1.out.trans n2).alloc (.cells #[.slice ba q bc] 38 (0, 0)))
      have B2 := Lib.hid (Has1.new v2 38 (.slice ba q bc))
      have M2 := Lib.hid (hown2.alloc (.cells #[.slice ba q bc] 38 (0, 0)))
      clear n2 hown2 hok2 hq hlen2
      go_wp2_with fail
      refine (fresh_any _ _ _ 5 (by omega) (by omega) _ (bys_nw Hb.out P2.out)).mono ?_
      rintro e v3 ⟨g3, l3, c3, rfl, -, -, hf3, bel3⟩
      have P3 := Lib.hid (P2.out.trans (nw_of_below bel3))
      have B3 := Lib.hid (B2.out.nw (nw_of_below bel3))
      have M3 := Lib.hid (own_nw M2.out (nw_of_below bel3))
      have F3 := Lib.hid hf3
      clear hf3 bel3
      go_wp2_with fail
      refine (makeRoom_any _ _ _ 4 (by omega) (by omega) _ F3.out).mono ?_
      rintro e v4 ⟨rs, rows, mv, sv, rfl, hlen4, hok4, hrl4, hwt4, hown4, hrow4, n4⟩
      have hql4 := hrow4.lens
      obtain ⟨ma, mc, rfl⟩ := own_shape' hown4
      obtain ⟨sa, sc, rfl⟩ := hrow4.shape
      obtain ⟨u, hu⟩ : ∃ u, u = rs.length := ⟨_, rfl⟩
      obtain ⟨p, hp⟩ : ∃ p, p = rows.length := ⟨_, rfl⟩
      rw [← hu] at hown4 hlen4 ⊢
      rw [← hp] at hrl4 ⊢
      have hg4 := RowsR.g hrow4
      rw [← hp] at hg4
      have Ok4 := Lib.hid (roomB_of (by omega) hok4 (by omega) hql4 hwt4)
      have Oc4 := Lib.hid (roomB_can (by omega) hok4 (by omega) hql4 hwt4)
      have Hr := Lib.hid (And.intro hok4 (And.intro hwt4 (And.intro hu.symm hp.symm)))
      have P4 := Lib.hid ((P3.out.trans n4).alloc (.cells #[.slice ma u mc, .slice sa p sc] 43 (0, 0)))
      have B4 := Lib.hid ((B3.out.nw n4).alloc (.cells #[.slice ma u mc, .slice sa p sc] 43 (0, 0)))
      have R4 := Lib.hid (Has2.new v4 43 (.slice ma u mc) (.slice sa p sc))
      have M4' := Lib.hid ((own_nw M3.out n4).alloc (.cells #[.slice ma u mc, .slice sa p sc] 43 (0, 0)))
      have S4 := Lib.hid (hown4.alloc (.cells #[.slice ma u mc, .slice sa p sc] 43 (0, 0)))
      have W4' := Lib.hid (show RowsG (v4.alloc (.cells #[.slice ma u mc, .slice sa p sc] 43 (0, 0))) v3.heap.size (.slice sa p sc) rows from hg4.nw ((Nw.refl _).alloc _))
      clear n4 hown4 hg4 hrow4 hok4 hwt4 hu hp hlen4 hrl4 hql4
      go_wp2_with fail
      refine (fresh_any _ _ _ 7 (by omega) (by omega) _ (bys_nw Hb.out P4.out)).mono ?_
      rintro e v5 ⟨g5, l5, c5, rfl, -, -, hf5, bel5⟩
      have A5 := Lib.hid (nw_of_below bel5)
      have F5 := Lib.hid hf5
      clear hf5 bel5
      go_wp2_with fail
      refine (makeWide_any _ _ _ _ F5.out).mono ?_
      rintro e v6 ⟨ws, wv, rfl, hare6, hbits6, hown6, n6⟩
      obtain ⟨wa, wc', rfl⟩ := own_shape' hown6
      obtain ⟨k, hk⟩ : ∃ k, k = ws.length := ⟨_, rfl⟩
      rw [← hk] at hown6 ⊢
      have Hw := Lib.hid (And.intro hk.symm (And.intro hare6 (wide_fin hare6 hbits6)))
      have A6 := Lib.hid (A5.out.trans n6)
      have P6 := Lib.hid (P4.out.trans A6.out)
      have B6 := Lib.hid (B4.out.nw A6.out)
      have R6 := Lib.hid (R4.out.nw A6.out)
      have M6 := Lib.hid (own_nw M4'.out A6.out)
      have S6 := Lib.hid (own_nw S4.out A6.out)
      have W6 := Lib.hid (W4'.out.nw A6.out)
      have V6 := Lib.hid hown6
      clear n6 hown6 hare6 hbits6 hk
      obtain ⟨b0, b1, b2⟩ := B6.out
      go_wp2_with fail
      refine (implFormatBody_c ms (fun m hm => okM_fin (Hok.out m hm)) q _ _ Hq.out (bodyB_of (by rw [Hq.out]; omega) Hok.out) _ (L.out.nw P6.out) M6.out).mono ?_
      rintro e v7 ⟨t7, rfl, hT7, hl7, n7⟩
      have T7 := Lib.hid hT7
      have A7 := Lib.hid n7
      have P7 := Lib.hid (P6.out.trans n7)
      clear hT7 n7 b0 b1 b2
      go_wp2_with fail
      refine (readBackB ms (by rw [Hq.out]; omega) Hok.out t7 T7.out hl7 _ (L.out.nw P7.out)).mono ?_
      rintro e v8 ⟨dv, rfl, hown8, n8⟩
      rw [List.length_map, Hq.out] at hown8
      obtain ⟨da, dc, rfl⟩ := own_shape' hown8
      have A8 := Lib.hid ((A7.out.trans n8).alloc (.cells #[.slice da q dc] 38 (0, 0)))
      have P8 := Lib.hid (P6.out.trans A8.out)
      have R8 := Lib.hid (R6.out.nw A8.out)
      have D8 := Lib.hid (Has1.new v8 38 (.slice da q dc))
      have C8 := Lib.hid (hown8.alloc (.cells #[.slice da q dc] 38 (0, 0)))
      clear n8 hown8
      obtain ⟨r0, r1, r2, r3, r4⟩ := R8.out
      go_wp2_with fail
      refine (implFormatRoom_c rs rows u p _ _ _ _ Hr.out.2.2.1 Hr.out.2.2.2 Ok4.out (fun m hm => okM_fin (Hr.out.1 m hm)) (fun r hr x hx => (Hr.out.2.1 r hr x hx).1) (L.out.nw P8.out) (own_nw S6.out A8.out) (W6.out.nw A8.out)).mono ?_
      rintro e v9 ⟨t9, rfl, hT9, hl9, n9⟩
      have T9 := Lib.hid hT9
      have A9 := Lib.hid n9
      have P9 := Lib.hid (P8.out.trans n9)
      clear hT9 n9 r0 r1 r2 r3 r4
      go_wp2_with fail
      refine (readBackR (rs.map canM) (rows.map (List.map can)) Oc4.out t9 T9.out hl9 _ (L.out.nw P9.out)).mono ?_
      rintro e v10 ⟨ev, fv, rfl, hown10, hrow10, n10⟩
      rw [List.length_map, Hr.out.2.2.1] at hown10
      obtain ⟨ea, ec, rfl⟩ := own_shape' hown10
      obtain ⟨fa, fc, rfl⟩ := hrow10.shape
      rw [List.length_map, Hr.out.2.2.2] at hrow10 ⊢
      have A10 := Lib.hid ((A9.out.trans n10).alloc (.cells #[.slice ea u ec, .slice fa p fc] 43 (0, 0)))
      have P10 := Lib.hid (P8.out.trans A10.out)
      have E10 := Lib.hid (Has2.new v10 43 (.slice ea u ec) (.slice fa p fc))
      have G10 := Lib.hid (hown10.alloc (.cells #[.slice ea u ec, .slice fa p fc] 43 (0, 0)))
      have J10 := Lib.hid (hrow10.nw (show Nw v10 (v10.alloc (.cells #[.slice ea u ec, .slice fa p fc] 43 (0, 0))) from (Nw.refl _).alloc _))
      clear n10 hown10 hrow10
      go_wp2_with fail
      refine (implFormatWide ws Hw.out.2.2 k _ _ Hw.out.1 Hw.out.2.1 _ (L.out.nw P10.out) (own_nw V6.out (A8.out.trans A10.out))).mono ?_
      rintro e v11 ⟨t11, rfl, hT11, hl11, n11⟩
      have T11 := Lib.hid hT11
      have A11 := Lib.hid n11
      have P11 := Lib.hid (P10.out.trans n11)
      clear hT11 n11
      go_wp2_with fail
      refine (readBackW ws Hw.out.2.1 t11 T11.out hl11 _ (L.out.nw P11.out)).mono ?_
      rintro e v12 ⟨hv, rfl, hown12, n12⟩
      rw [Hw.out.1] at hown12
      obtain ⟨ha', hc', rfl⟩ := own_shape' hown12
      have A12 := Lib.hid (A11.out.trans n12)
      have P12 := Lib.hid (P10.out.trans A12.out)
      have B12 := Lib.hid (B6.out.nw (A8.out.trans (A10.out.trans A12.out)))
      have D12 := Lib.hid (D8.out.nw (A10.out.trans A12.out))
      have R12 := Lib.hid (R8.out.nw (A10.out.trans A12.out))
      have E12 := Lib.hid (E10.out.nw A12.out)
      have M12 := Lib.hid (own_nw M6.out (A8.out.trans (A10.out.trans A12.out)))
      have C12 := Lib.hid (own_nw C8.out (A10.out.trans A12.out))
      have S12 := Lib.hid (own_nw S6.out (A8.out.trans (A10.out.trans A12.out)))
      have W12 := Lib.hid (W6.out.nw (A8.out.trans (A10.out.trans A12.out)))
      have G12 := Lib.hid (own_nw G10.out A12.out)
      have J12 := Lib.hid (J10.out.nw A12.out)
      have V12 := Lib.hid (own_nw V6.out (A8.out.trans (A10.out.trans A12.out)))
      have H12 := Lib.hid hown12
      clear n12 hown12
      go_upto_region 18 with fail
      obtain ⟨k2, hk2⟩ : ∃ k2, k2 = v2.heap.size := ⟨_, rfl⟩
      rw [← hk2] at B12 ⊢
      clear hk2
      obtain ⟨k8, hk8⟩ : ∃ k8, k8 = v8.heap.size := ⟨_, rfl⟩
      rw [← hk8] at D12 ⊢
      clear hk8
      obtain ⟨k4, hk4⟩ : ∃ k4, k4 = v4.heap.size := ⟨_, rfl⟩
      rw [← hk4] at R12 ⊢
      clear hk4
      obtain ⟨k10, hk10⟩ : ∃ k10, k10 = v10.heap.size := ⟨_, rfl⟩
      rw [← hk10] at E12 ⊢
      clear hk10
      have Keep := Lib.hid (show ∀ W, Nw v12 W → (fun w' => w'.cell? ⟨k2, 0, none⟩ = some (.slice ba q bc) ∧ w'.cell? ⟨k8, 0, none⟩ = some (.slice da q dc) ∧ w'.cell? ⟨k4, 0, none⟩ = some (.slice ma u mc) ∧ w'.cell? ⟨k4, 1, none⟩ = some (.slice sa p sc) ∧ w'.cell? ⟨k10, 0, none⟩ = some (.slice ea u ec) ∧ w'.cell? ⟨k10, 1, none⟩ = some (.slice fa p fc)) W from fun W hW => by
        obtain ⟨-, x1, -⟩ := B12.out.nw hW
        obtain ⟨-, x2, -⟩ := D12.out.nw hW
        obtain ⟨-, x3, x4, -⟩ := R12.out.nw hW
        obtain ⟨-, x5, x6, -⟩ := E12.out.nw hW
        exact ⟨x1, x2, x3, x4, x5, x6⟩)
      refine wp_region_held_drew (S := fun w' => w'.cell? ⟨k2, 0, none⟩ = some (.slice ba q bc) ∧ w'.cell? ⟨k8, 0, none⟩ = some (.slice da q dc) ∧ w'.cell? ⟨k4, 0, none⟩ = some (.slice ma u mc) ∧ w'.cell? ⟨k4, 1, none⟩ = some (.slice sa p sc) ∧ w'.cell? ⟨k10, 0, none⟩ = some (.slice ea u ec) ∧ w'.cell? ⟨k10, 1, none⟩ = some (.slice fa p fc)) (by kernel_rfl) ?_ (fun hHeld => ?_)
      · exact Keep.out _ (nwx_drew (Nw.refl _))
      refine wpAnyH_take (i := 0) (oi := _) (v := ?_) rfl (by kernel_rfl) (by kernel_rfl) (by kernel_rfl) (fun _ _ _ h => h) (_root_.Or.inl ⟨by kernel_rfl, ?_⟩) hHeld ?_
      rotate_left
      · intro w hSw
        (try dsimp only at hSw)
        go_simp
        all_goals with_reducible rfl
      try simp only [Act.put, List.setIfInBounds_toArray, List.set_cons_zero, List.set_cons_succ]
      refine wpAnyH_take (i := 1) (oi := _) (v := ?_) rfl (by kernel_rfl) (by kernel_rfl) (by kernel_rfl) (fun _ _ _ h => h) (_root_.Or.inl ⟨by kernel_rfl, ?_⟩) hHeld ?_
      rotate_left
      · intro w hSw
        (try dsimp only at hSw)
        go_simp
        all_goals with_reducible rfl
      try simp only [Act.put, List.setIfInBounds_toArray, List.set_cons_zero, List.set_cons_succ]
      refine wpAnyH_take (i := 2) (oi := _) (v := ?_) rfl (by kernel_rfl) (by kernel_rfl) (by kernel_rfl) (fun _ _ _ h => h) (_root_.Or.inl ⟨by kernel_rfl, ?_⟩) hHeld ?_
      rotate_left
      · intro w hSw
        (try dsimp only at hSw)
        go_simp
        all_goals with_reducible rfl
      try simp only [Act.put, List.setIfInBounds_toArray, List.set_cons_zero, List.set_cons_succ]
      refine wpAnyH_take (i := 3) (oi := _) (v := ?_) rfl (by kernel_rfl) (by kernel_rfl) (by kernel_rfl) (fun _ _ _ h => h) (_root_.Or.inl ⟨by kernel_rfl, ?_⟩) hHeld ?_
      rotate_left
      · intro w hSw
        (try dsimp only at hSw)
        go_simp
        all_goals with_reducible rfl
      try simp only [Act.put, List.setIfInBounds_toArray, List.set_cons_zero, List.set_cons_succ]
      refine wpAnyH_take (i := 4) (oi := _) (v := ?_) rfl (by kernel_rfl) (by kernel_rfl) (by kernel_rfl) (fun _ _ _ h => h) (_root_.Or.inl ⟨by kernel_rfl, ?_⟩) hHeld ?_
      rotate_left
      · intro w hSw
        (try dsimp only at hSw)
        go_simp
        all_goals with_reducible rfl
      try simp only [Act.put, List.setIfInBounds_toArray, List.set_cons_zero, List.set_cons_succ]
      refine wpAnyH_take (i := 5) (oi := _) (v := ?_) rfl (by kernel_rfl) (by kernel_rfl) (by kernel_rfl) (fun _ _ _ h => h) (_root_.Or.inl ⟨by kernel_rfl, ?_⟩) hHeld ?_
      rotate_left
      · intro w hSw
        (try dsimp only at hSw)
        go_simp
        all_goals with_reducible rfl
      try simp only [Act.put, List.setIfInBounds_toArray, List.set_cons_zero, List.set_cons_succ]
      refine wpAnyH_take (i := 6) (oi := _) (v := ?_) rfl (by kernel_rfl) (by kernel_rfl) (by kernel_rfl) (fun _ _ _ h => h) (_root_.Or.inl ⟨by kernel_rfl, ?_⟩) hHeld ?_
      rotate_left
      · intro w hSw
        (try dsimp only at hSw)
        go_simp
        all_goals with_reducible rfl
      try simp only [Act.put, List.setIfInBounds_toArray, List.set_cons_zero, List.set_cons_succ]
      refine wpAnyH_take (i := 7) (oi := _) (v := ?_) rfl (by kernel_rfl) (by kernel_rfl) (by kernel_rfl) (fun _ _ _ h => h) (_root_.Or.inl ⟨by kernel_rfl, ?_⟩) hHeld ?_
      rotate_left
      · intro w hSw
        (try dsimp only at hSw)
        go_simp
        all_goals with_reducible rfl
      try simp only [Act.put, List.setIfInBounds_toArray, List.set_cons_zero, List.set_cons_succ]
      refine wpAnyH_take (i := 8) (oi := _) (v := ?_) rfl (by kernel_rfl) (by kernel_rfl) (by kernel_rfl) (fun _ _ _ h => h) (_root_.Or.inl ⟨by kernel_rfl, ?_⟩) hHeld ?_
      rotate_left
      · intro w hSw
        (try dsimp only at hSw)
        go_simp
        all_goals with_reducible rfl
      try simp only [Act.put, List.setIfInBounds_toArray, List.set_cons_zero, List.set_cons_succ]
      refine wpAnyH_take (i := 9) (oi := _) (v := ?_) rfl (by kernel_rfl) (by kernel_rfl) (by kernel_rfl) (fun _ _ _ h => h) (_root_.Or.inl ⟨by kernel_rfl, ?_⟩) hHeld ?_
      rotate_left
      · intro w hSw
        (try dsimp only at hSw)
        go_simp
        all_goals with_reducible rfl
      try simp only [Act.put, List.setIfInBounds_toArray, List.set_cons_zero, List.set_cons_succ]
      refine wpAnyH_take (i := 10) (oi := _) (v := ?_) rfl (by kernel_rfl) (by kernel_rfl) (by kernel_rfl) (fun _ _ _ h => h) (_root_.Or.inl ⟨by kernel_rfl, ?_⟩) hHeld ?_
      rotate_left
      · intro w hSw
        (try dsimp only at hSw)
        go_simp
        all_goals with_reducible rfl
      try simp only [Act.put, List.setIfInBounds_toArray, List.set_cons_zero, List.set_cons_succ]
      refine wpAnyH_take (i := 11) (oi := _) (v := ?_) rfl (by kernel_rfl) (by kernel_rfl) (by kernel_rfl) (fun _ _ _ h => h) (_root_.Or.inl ⟨by kernel_rfl, ?_⟩) hHeld ?_
      rotate_left
      · intro w hSw
        (try dsimp only at hSw)
        go_simp
        all_goals with_reducible rfl
      try simp only [Act.put, List.setIfInBounds_toArray, List.set_cons_zero, List.set_cons_succ]
      refine wpAnyH_ready (rs := [12]) (by kernel_rfl) (by simp) ?_
      refine AllReadyH.cons (o := _) rfl (fun K hK => ?_) AllReadyH.nil
      go_simp
      go_at_call 25
      refine (sameModes_m ms (ms.map canM) q _ _ _ _ Hq.out (by rw [List.length_map]; exact Hq.out) (by omega) (fun m hm => okM_fin (Hok.out m hm)) (fun m hm => by obtain ⟨m0, h0, rfl⟩ := List.mem_map.1 hm; exact (canM_ok (okM_fin (Hok.out m0 h0))).1) (fun k m m' h1 h2 => by rw [List.getElem?_map, h1] at h2; cases h2; have hf := okM_fin (Hok.out m (List.mem_of_getElem? h1)); exact ⟨(can_ok hf.1).2.2.symm, (can_ok hf.2.1).2.2.symm, (can_ok hf.2.2.1).2.2.symm, (can_ok hf.2.2.2).2.2.symm⟩) _ (own_nw M12.out (nwx_drew (Nw.refl _))) (own_nw C12.out (nwx_drew (Nw.refl _)))).mono ?_
      rintro e u1 ⟨rfl, nn1⟩
      have Y1 := Lib.hid (Nw.trans (nwx_drew (Nw.refl v12)) nn1)
      clear nn1
      go_wp2_with fail
      refine hK.out _ _ ?_ (fun hHeld => ?_)
      · ((try dsimp only) ; exact Keep.out _ Y1.out)
      clear hK K
      try simp only [Act.put, List.setIfInBounds_toArray, List.set_cons_zero, List.set_cons_succ]
      refine wpAnyH_take (i := 13) (oi := _) (v := ?_) rfl (by kernel_rfl) (by kernel_rfl) (by kernel_rfl) (fun _ _ _ h => h) (_root_.Or.inl ⟨by kernel_rfl, ?_⟩) hHeld ?_
      rotate_left
      · intro w hSw
        (try dsimp only at hSw)
        go_simp
        all_goals with_reducible rfl
      try simp only [Act.put, List.setIfInBounds_toArray, List.set_cons_zero, List.set_cons_succ]
      refine wpAnyH_take (i := 14) (oi := _) (v := ?_) rfl (by kernel_rfl) (by kernel_rfl) (by kernel_rfl) (fun _ _ _ h => h) (_root_.Or.inl ⟨by kernel_rfl, ?_⟩) hHeld ?_
      rotate_left
      · intro w hSw
        (try dsimp only at hSw)
        go_simp
        all_goals with_reducible rfl
      try simp only [Act.put, List.setIfInBounds_toArray, List.set_cons_zero, List.set_cons_succ]
      refine wpAnyH_take (i := 15) (oi := _) (v := ?_) rfl (by kernel_rfl) (by kernel_rfl) (by kernel_rfl) (fun _ _ _ h => h) (_root_.Or.inl ⟨by kernel_rfl, ?_⟩) hHeld ?_
      rotate_left
      · intro w hSw
        (try dsimp only at hSw)
        go_simp
        all_goals with_reducible rfl
      try simp only [Act.put, List.setIfInBounds_toArray, List.set_cons_zero, List.set_cons_succ]
      refine wpAnyH_take (i := 17) (oi := _) (v := ?_) rfl (by kernel_rfl) (by kernel_rfl) (by kernel_rfl) (fun _ _ _ h => h) (_root_.Or.inl ⟨by kernel_rfl, ?_⟩) hHeld ?_
      rotate_left
      · intro w hSw
        (try dsimp only at hSw)
        go_simp
        all_goals with_reducible rfl
      try simp only [Act.put, List.setIfInBounds_toArray, List.set_cons_zero, List.set_cons_succ]
      refine wpAnyH_ready (rs := [16]) (by kernel_rfl) (by simp) ?_
      refine AllReadyH.cons (o := _) rfl (fun K hK => ?_) AllReadyH.nil
      go_simp
      go_at_call 26
      refine (specFormatRoom_ok (rs.map canM) (rows.map (List.map can)) u p _ _ _ _ (by rw [List.length_map]; exact Hr.out.2.2.1) (by rw [List.length_map]; exact Hr.out.2.2.2) Oc4.out (fun m hm => by obtain ⟨m0, h0, rfl⟩ := List.mem_map.1 hm; exact canM_ok (okM_fin (Hr.out.1 m0 h0))) (fun r hr x hx => by obtain ⟨r0, h0, rfl⟩ := List.mem_map.1 hr; obtain ⟨x0, k0, rfl⟩ := List.mem_map.1 hx; have h := can_ok (Hr.out.2.1 r0 h0 x0 k0).1; exact ⟨h.1, h.2.1⟩) (own_nw G12.out Y1.out) (J12.out.nw Y1.out)).mono ?_
      rintro e u2 ⟨tq, rfl, hq2, -, nn2⟩
      have Y2 := Lib.hid (Y1.out.trans nn2)
      have Q2 := Lib.hid hq2
      clear nn2 hq2
      go_wp2_with fail
      refine hK.out _ _ ?_ (fun hHeld => ?_)
      · ((try dsimp only) ; exact Keep.out _ Y2.out)
      clear hK K
      try simp only [Act.put, List.setIfInBounds_toArray, List.set_cons_zero, List.set_cons_succ]
      refine wpAnyH_ready (rs := [18]) (by kernel_rfl) (by simp) ?_
      refine AllReadyH.cons (o := _) rfl (fun K hK => ?_) AllReadyH.nil
      go_simp
      go_at_call 26
      refine (specFormatRoom_c rs rows u p _ _ _ _ Hr.out.2.2.1 Hr.out.2.2.2 Ok4.out (fun m hm => okM_fin (Hr.out.1 m hm)) (fun r hr x hx => (Hr.out.2.1 r hr x hx).1) (own_nw S12.out Y2.out) (W12.out.nw Y2.out)).mono ?_
      rintro e u3 ⟨tr, rfl, hq3, -, nn3⟩
      obtain rfl := textR_txt Q2.out hq3
      have Y3 := Lib.hid (Y2.out.trans nn3)
      clear nn3 hq3
      go_wp2_with fail
      refine hK.out _ _ ?_ (fun hHeld => ?_)
      · ((try dsimp only) ; exact Keep.out _ Y3.out)
      clear hK K
      try simp only [Act.put, List.setIfInBounds_toArray, List.set_cons_zero, List.set_cons_succ]
      refine wpAnyH_take (i := 19) (oi := _) (v := ?_) rfl (by kernel_rfl) (by kernel_rfl) (by kernel_rfl) (fun _ _ _ h => h) (_root_.Or.inl ⟨by kernel_rfl, ?_⟩) hHeld ?_
      rotate_left
      · intro w hSw
        (try dsimp only at hSw)
        go_simp
        all_goals with_reducible rfl
      try simp only [Act.put, List.setIfInBounds_toArray, List.set_cons_zero, List.set_cons_succ]
      refine wpAnyH_take (i := 20) (oi := _) (v := ?_) rfl (by kernel_rfl) (by kernel_rfl) (by kernel_rfl) (fun _ _ _ h => h) (_root_.Or.inl ⟨by kernel_rfl, ?_⟩) hHeld ?_
      rotate_left
      · intro w hSw
        (try dsimp only at hSw)
        go_simp
        all_goals with_reducible rfl
      try simp only [Act.put, List.setIfInBounds_toArray, List.set_cons_zero, List.set_cons_succ]
      refine wpAnyH_take (i := 21) (oi := _) (v := ?_) rfl (by kernel_rfl) (by kernel_rfl) (by kernel_rfl) (fun _ _ _ h => h) (_root_.Or.inl ⟨by kernel_rfl, ?_⟩) hHeld ?_
      rotate_left
      · intro w hSw
        (try dsimp only at hSw)
        go_simp
        all_goals with_reducible rfl
      try simp only [Act.put, List.setIfInBounds_toArray, List.set_cons_zero, List.set_cons_succ]
      refine wpAnyH_take (i := 22) (oi := _) (v := ?_) rfl (by kernel_rfl) (by kernel_rfl) (by kernel_rfl) (fun _ _ _ h => h) (_root_.Or.inl ⟨by kernel_rfl, ?_⟩) hHeld ?_
      rotate_left
      · intro w hSw
        (try dsimp only at hSw)
        go_simp
        all_goals with_reducible rfl
      try simp only [Act.put, List.setIfInBounds_toArray, List.set_cons_zero, List.set_cons_succ]
      refine wpAnyH_take (i := 24) (oi := _) (v := ?_) rfl (by kernel_rfl) (by kernel_rfl) (by kernel_rfl) (fun _ _ _ h => h) (_root_.Or.inl ⟨by kernel_rfl, ?_⟩) hHeld ?_
      rotate_left
      · intro w hSw
        (try dsimp only at hSw)
        go_simp
        all_goals with_reducible rfl
      try simp only [Act.put, List.setIfInBounds_toArray, List.set_cons_zero, List.set_cons_succ]
      refine wpAnyH_ready (rs := [23]) (by kernel_rfl) (by simp) ?_
      refine AllReadyH.cons (o := _) rfl (fun K hK => ?_) AllReadyH.nil
      go_simp
      go_at_call 27
      refine (specFormatWide_ok ws Hw.out.2.2 k _ _ Hw.out.1 Hw.out.2.1 _ (own_nw H12.out Y3.out)).mono ?_
      rintro e u4 ⟨tm, rfl, hq4, -, nn4⟩
      have Y4 := Lib.hid (Y3.out.trans nn4)
      have Q4 := Lib.hid hq4
      clear nn4 hq4
      go_wp2_with fail
      refine hK.out _ _ ?_ (fun hHeld => ?_)
      · ((try dsimp only) ; exact Keep.out _ Y4.out)
      clear hK K
      try simp only [Act.put, List.setIfInBounds_toArray, List.set_cons_zero, List.set_cons_succ]
      refine wpAnyH_ready (rs := [25]) (by kernel_rfl) (by simp) ?_
      refine AllReadyH.cons (o := _) rfl (fun K hK => ?_) AllReadyH.nil
      go_simp
      go_at_call 27
      refine (specFormatWide_ok ws Hw.out.2.2 k _ _ Hw.out.1 Hw.out.2.1 _ (own_nw V12.out Y4.out)).mono ?_
      rintro e u5 ⟨tl, rfl, hq5, -, nn5⟩
      obtain rfl := LinesT.one (L := LineW) (fun _ _ _ h k => LineT.txt txD_K h k) Q4.out hq5
      have Y5 := Lib.hid (Y4.out.trans nn5)
      clear nn5 hq5
      go_wp2_with fail
      refine hK.out _ _ ?_ (fun hHeld => ?_)
      · ((try dsimp only) ; exact Keep.out _ Y5.out)
      clear hK K
      try simp only [Act.put, List.setIfInBounds_toArray, List.set_cons_zero, List.set_cons_succ]
      refine wpAnyH_take (i := 26) (oi := _) (v := ?_) rfl (by kernel_rfl) (by kernel_rfl) (by kernel_rfl) (fun _ _ _ h => h) (_root_.Or.inl ⟨by kernel_rfl, ?_⟩) hHeld ?_
      rotate_left
      · intro w hSw
        (try dsimp only at hSw)
        go_simp
        all_goals with_reducible rfl
      try simp only [List.getElem_toArray, List.getElem_cons_succ, List.getElem_cons_zero, Act.put, List.setIfInBounds_toArray, List.set_cons_zero, List.set_cons_succ]
      refine wpAnyH_take (i := 27) (oi := _) (v := ?_) rfl (by kernel_rfl) (by kernel_rfl) (by kernel_rfl) (fun _ _ _ h => h) (_root_.Or.inl ⟨by kernel_rfl, ?_⟩) hHeld ?_
      rotate_left
      · intro w hSw
        (try dsimp only at hSw)
        go_simp
        all_goals with_reducible rfl
      try simp only [List.getElem_toArray, List.getElem_cons_succ, List.getElem_cons_zero, Act.put, List.setIfInBounds_toArray, List.set_cons_zero, List.set_cons_succ]
      refine wpAnyH_take (i := 28) (oi := _) (v := ?_) rfl (by kernel_rfl) (by kernel_rfl) (by kernel_rfl) (fun _ _ _ h => h) (_root_.Or.inl ⟨by kernel_rfl, ?_⟩) hHeld ?_
      rotate_left
      · intro w hSw
        (try dsimp only at hSw)
        go_simp
        all_goals with_reducible rfl
      try simp only [List.getElem_toArray, List.getElem_cons_succ, List.getElem_cons_zero, Act.put, List.setIfInBounds_toArray, List.set_cons_zero, List.set_cons_succ]
      refine wpAnyH_done (by kernel_rfl) ?_ _
      go_wp2_with fail
      go_ret
      exact ⟨rfl, P12.out.trans Y5.out⟩
end Go.Proofs.YtnmjkjjmigiabaaGreatDoor
