/- Plain facts: the sums over the modes of a body, and the drift's bound. No program stands in it.
   Conditions: those that each statement names. -/
import Derived.Test.YtlhhcchncobmhaaTrajS
import Derived.Test.YtlhhcchncobmhaaDrift
namespace Go.Proofs.Ytlhhcchncobmhaa
set_option linter.unusedSimpArgs false
set_option linter.unusedVariables false
open Go

def rs (f : M4 → Rat) : List M4 → Rat
  | [] => 0
  | m :: ms => f m + rs f ms
theorem rs_nonneg (f : M4 → Rat) : ∀ ms : List M4, (∀ m ∈ ms, 0 ≤ f m) → 0 ≤ rs f ms
  | [], _ => by simp [rs]
  | m :: ms, h => by
    have := rs_nonneg f ms (fun m hm => h m (List.mem_cons_of_mem _ hm))
    have := h m (List.mem_cons_self ..)
    simp only [rs]; grind
theorem rs_le (f g : M4 → Rat) : ∀ ms : List M4, (∀ m ∈ ms, f m ≤ g m) → rs f ms ≤ rs g ms
  | [], _ => by simp [rs]
  | m :: ms, h => by
    have := rs_le f g ms (fun m hm => h m (List.mem_cons_of_mem _ hm))
    have := h m (List.mem_cons_self ..)
    simp only [rs]; grind
theorem rs_ab (f g : M4 → Rat) : ∀ ms : List M4, (∀ m ∈ ms, Flo.Ab (f m) (g m)) → Flo.Ab (rs f ms) (rs g ms)
  | [], _ => by simp [rs, Flo.Ab]
  | m :: ms, h => (h m (List.mem_cons_self ..)).add (rs_ab f g ms (fun m hm => h m (List.mem_cons_of_mem _ hm)))
theorem rs_lin (f g h : M4 → Rat) (a b : Rat) (e : ∀ m, f m = a * g m + b * h m) : ∀ ms : List M4, rs f ms = a * rs g ms + b * rs h ms
  | [] => by simp only [rs]; grind
  | m :: ms => by simp only [rs]; rw [e, rs_lin f g h a b e ms]; grind
theorem rs_const : ∀ ms : List M4, rs (fun _ => 1) ms = (ms.length : Rat)
  | [] => by simp [rs]
  | m :: ms => by
    simp only [rs, List.length_cons]
    rw [rs_const ms]
    have : ((ms.length + 1 : Nat) : Rat) = (ms.length : Rat) + 1 := by exact_mod_cast rfl
    rw [this]; grind
theorem rs_sub (f g h : M4 → Rat) (e : ∀ m, f m = g m - h m) (ms : List M4) : rs f ms = rs g ms - rs h ms := by
  rw [rs_lin f g h 1 (-1) (fun m => by rw [e]; grind) ms]; grind

/-- a sum from the left, rounded at each step -/
theorem fold_ok (k : FloatKind) (num : Nat → Prop) (val : Nat → Rat) (hadd : ∀ x y B, num x → num y → Flo.Ab (val x + val y) B → B < Flo.pw 127 → ∃ r, floatBits .add k x y = some r ∧ num r ∧ Flo.Ab (val r - (val x + val y)) (B * Flo.v + Flo.es))
    (f : M4 → Nat × Nat) (Bf : M4 → Rat) (T ε : Rat) (hε0 : 0 ≤ ε) (hε : (T + 16 * ε) * Flo.v + Flo.es ≤ ε) (hT : T + 16 * ε < Flo.pw 127) :
    ∀ (ms : List M4) (y : Nat) (A A0 : Rat) (j : Nat), num y → Flo.Ab (val y - A) ((j : Rat) * ε) → Flo.Ab A A0 → (∀ m ∈ ms, num (f m).1 ∧ Flo.Ab (val (f m).1) (Bf m)) → A0 + rs Bf ms ≤ T → j + ms.length ≤ 16 →
      (∀ (i : Nat) s, (ms.map f)[i]? = some s → Calm .add k (((ms.map f).take i).foldl (fun y s => opB .add k y s.1) y) s.1) ∧ num ((ms.map f).foldl (fun y s => opB .add k y s.1) y) ∧
        Flo.Ab (val ((ms.map f).foldl (fun y s => opB .add k y s.1) y) - (A + rs (fun m => val (f m).1) ms)) (((j + ms.length : Nat) : Rat) * ε)
  | [], y, A, A0, j, hy, he, hA, hm, hs, hj => by
    refine ⟨fun i s h => by simp at h, hy, ?_⟩
    simp only [List.map_nil, List.foldl_nil, rs, List.length_nil, Nat.add_zero]
    exact he.eq (by grind)
  | m :: ms, y, A, A0, j, hy, he, hA, hm, hs, hj => by
    obtain ⟨n1, b1⟩ := hm m (List.mem_cons_self ..)
    have hB0 := rs_nonneg Bf ms (fun m' hm' => (hm m' (List.mem_cons_of_mem _ hm')).2.nonneg)
    simp only [rs] at hs
    simp only [List.length_cons] at hj
    have hj16 : (j : Rat) ≤ 16 := by
      have : ((j : Nat) : Rat) ≤ ((16 : Nat) : Rat) := by exact_mod_cast (by omega : j ≤ 16)
      exact this
    have hj0 : (0 : Rat) ≤ (j : Rat) := by exact_mod_cast Nat.zero_le j
    have hje := Rat.mul_le_mul_of_nonneg_right hj16 hε0
    have hb : Flo.Ab (val y + val (f m).1) (T + 16 * ε) := ((he.add hA).add b1).eq (by grind) |>.mono (by grind)
    obtain ⟨r, r1, r2, r3⟩ := hadd y (f m).1 _ hy n1 hb hT
    obtain ⟨c1, e1⟩ := Calm.of r1
    have he' : Flo.Ab (val r - (A + val (f m).1)) (((j + 1 : Nat) : Rat) * ε) := by
      have h2 : ((j + 1 : Nat) : Rat) = (j : Rat) + 1 := by exact_mod_cast rfl
      rw [h2]
      exact ((r3.mono hε).add he).eq (by grind) |>.mono (by grind)
    obtain ⟨i1, i2, i3⟩ := fold_ok k num val hadd f Bf T ε hε0 hε hT ms r (A + val (f m).1) (A0 + Bf m) (j + 1) r2 he' (hA.add b1) (fun m' hm' => hm m' (List.mem_cons_of_mem _ hm')) (by grind) (by omega)
    rw [← e1] at i1 i2 i3
    refine ⟨fun i s h => ?_, i2, ?_⟩
    · cases i with
      | zero => simp at h; subst h; simpa using c1
      | succ i => simpa using i1 i s (by simpa using h)
    · simp only [List.map_cons, List.foldl_cons, rs, List.length_cons]
      rw [show j + (ms.length + 1) = j + 1 + ms.length from by omega]
      exact i3.eq (by grind)

theorem add_single : ∀ x y B, Sm x → Sm y → Flo.Ab (S x + S y) B → B < Flo.pw 127 → ∃ r, floatBits .add .f32 x y = some r ∧ Sm r ∧ Flo.Ab (S r - (S x + S y)) (B * Flo.v + Flo.es) :=
  fun x y B hx hy h hB => Flo.s_add x y hx hy B h hB
theorem add_double : ∀ x y B, Flo.Nm x → Flo.Nm y → Flo.Ab (Flo.W x + Flo.W y) B → B < Flo.pw 127 → ∃ r, floatBits .add .f64 x y = some r ∧ Flo.Nm r ∧ Flo.Ab (Flo.W r - (Flo.W x + Flo.W y)) (B * Flo.v + Flo.es) := by
  intro x y B hx hy h hB
  obtain ⟨r, r1, r2, r3⟩ := Flo.d_add x y hx hy B h (by have := small'.l0; grind)
  refine ⟨r, r1, r2, r3.mono ?_⟩
  have hB0 := h.nonneg
  have huv : Flo.u ≤ Flo.v := Flo.pw_le (by omega)
  have := Rat.mul_le_mul_of_nonneg_left huv hB0
  have := Flo.et_le_es
  grind

/-- the bound on a drift, by the product P of the sum of all gains' sizes and the input's sum -/
def bDrift (n q : Nat) (P : Rat) : Rat := ((n : Rat) + (q : Rat) + 1) * P * (7 / 8) * Flo.pw (-20) + Flo.pw (-120)

/-- the errors' sum, in plain numbers -/
theorem drift_sum (n q P v es z : Rat) (hn0 : 0 ≤ n) (hn : n ≤ 2000) (hq0 : 0 ≤ q) (hq : q ≤ 16) (hP : 0 ≤ P) (ve : v * 16777216 = 1) (e0 : 0 < es) (ez : 536870912 * es ≤ z) :
    2 * (n * (3 / 2 * (42 / 10 * (P * v) + q * (7 * es))) * (51 / 50)) + 2 * (q * (2 * (26 / 25 * P + q * (60000 * es)) * v + 2 * es)) ≤ (n + q + 1) * P * (27 / 32) * (v * 16) + z / 2 := by
  have hv : v = 1 / 16777216 := by grind
  subst hv
  have k1 := Rat.mul_nonneg hn0 hP
  have k2 := Rat.mul_nonneg hq0 hP
  have k3 := Rat.mul_le_mul_of_nonneg_right hn (Rat.mul_nonneg hq0 (Rat.le_of_lt e0))
  have k4 := Rat.mul_le_mul_of_nonneg_right hq (Rat.le_of_lt e0)
  have k5 := Rat.mul_le_mul_of_nonneg_right hq (Rat.mul_nonneg hq0 (Rat.le_of_lt e0))
  have k6 := Rat.mul_nonneg hq0 (Rat.le_of_lt e0)
  grind

theorem rs_ge (f : M4 → Rat) : ∀ (ms : List M4), (∀ m ∈ ms, 0 ≤ f m) → ∀ m ∈ ms, f m ≤ rs f ms
  | [], _, m, hm => by simp at hm
  | a :: ms, h, m, hm => by
    have h1 := rs_nonneg f ms (fun m hm => h m (List.mem_cons_of_mem _ hm))
    have h2 := h a (List.mem_cons_self ..)
    simp only [rs]
    rcases List.mem_cons.1 hm with rfl | hm
    · grind
    · have := rs_ge f ms (fun m hm => h m (List.mem_cons_of_mem _ hm)) m hm
      grind

set_option maxHeartbeats 3200000 in
/-- RINGING IN SINGLE PRECISION STAYS NEAR RINGING IN DOUBLE PRECISION. -/
theorem drift_ok (ms : List M4) (hms : ∀ m ∈ ms, m.ok) (x : Nat → Nat) (n q : Nat) (hq : ms.length = q) (hq16 : q ≤ 16) (hn : n ≤ 2000) (hx : ∀ i, i < n → Sm (x i)) (X : Rat) (hX : ∀ i, i ≤ n → psum (fun j => S (x j)) i ≤ X) (hX0 : 0 ≤ X)
    (hP : rs gm ms * X ≤ Flo.pw 100) : RingOk ms x n ∧ RingDOk ms x n ∧ DiffOk ms x n (bDrift n q (rs gm ms * X)) ∧ 0 ≤ bDrift n q (rs gm ms * X) := by
  have hG0 := rs_nonneg gm ms (fun m _ => gm_nonneg m)
  have hP0 := Rat.mul_nonneg hG0 hX0
  have hPm : ∀ m ∈ ms, gm m * X ≤ Flo.pw 100 := fun m hm => by
    have := Rat.mul_le_mul_of_nonneg_right (rs_ge gm ms (fun m _ => gm_nonneg m) m hm) hX0
    grind
  have hs := fun m hm => mode_single m (hms m hm) x n hn hx X hX (hPm m hm) hX0
  have hd := fun m hm => mode_double m (hms m hm) x n hn hx X hX (hPm m hm) hX0
  have hq0 : (0 : Rat) ≤ (q : Rat) := by exact_mod_cast Nat.zero_le q
  have hqr : (q : Rat) ≤ 16 := by
    have : ((q : Nat) : Rat) ≤ ((16 : Nat) : Rat) := by exact_mod_cast hq16
    exact this
  have hn0 : (0 : Rat) ≤ (n : Rat) := by exact_mod_cast Nat.zero_le n
  have hnr : (n : Rat) ≤ 2000 := by
    have : ((n : Nat) : Rat) ≤ ((2000 : Nat) : Rat) := by exact_mod_cast hn
    exact this
  have e0 := Flo.es_pos
  have ve := Flo.v_eq
  have hv : Flo.v = 1 / 16777216 := by grind
  -- the sum of the bounds
  have hT : rs (fun m => bM' (gm m * X)) ms = 26 / 25 * (rs gm ms * X) + (q : Rat) * (60000 * Flo.es) := by
    have h := rs_lin (fun m => bM' (gm m * X)) gm (fun _ => 1) (26 / 25 * X) (60000 * Flo.es) (fun m => by unfold bM'; grind) ms
    rw [h, rs_const, hq]; grind
  generalize hTT : rs (fun m => bM' (gm m * X)) ms = T at *
  have hT0 : 0 ≤ T := by
    rw [hT]
    have := Rat.mul_nonneg hq0 (show (0 : Rat) ≤ 60000 * Flo.es by grind)
    grind
  have hTmax : T ≤ Flo.pw 110 := by
    have l : Flo.pw 110 = 1024 * Flo.pw 100 := by rw [show (110 : Int) = 10 + 100 from rfl, Flo.pw_add, show Flo.pw 10 = 1024 from Flo.pw_nat 10]
    have o : 1 ≤ Flo.pw 100 := by rw [← Flo.pw_zero]; exact Flo.pw_le (by omega)
    have es1 := small'.es1
    have := Rat.mul_le_mul_of_nonneg_right hqr (show (0 : Rat) ≤ 60000 * Flo.es by grind)
    grind
  obtain ⟨ε, hεd⟩ : ∃ ε, ε = 2 * T * Flo.v + 2 * Flo.es := ⟨_, rfl⟩
  have hε0 : 0 ≤ ε := by rw [hεd, hv]; grind
  have hε : (T + 16 * ε) * Flo.v + Flo.es ≤ ε := by rw [hεd, hv]; grind
  have hTt : T + 16 * ε < Flo.pw 127 := by
    have l1 := Flo.pw_lt (a := 112) (b := 127) (by omega)
    have l2 : Flo.pw 112 = 4 * Flo.pw 110 := by rw [show (112 : Int) = 2 + 110 from rfl, Flo.pw_add, show Flo.pw 2 = 4 from Flo.pw_nat 2]
    have o : 1 ≤ Flo.pw 110 := by rw [← Flo.pw_zero]; exact Flo.pw_le (by omega)
    have es1 := small'.es1
    rw [hεd, hv]; grind
  -- the two sums at one step
  have sumS := fun i (hi : i < n) => fold_ok .f32 Sm S add_single (fun m => st1 m x (i + 1)) (fun m => bM' (gm m * X)) T ε hε0 hε hTt ms 0 0 0 0 zero_single.1 (by rw [zero_single.2]; unfold Flo.Ab; simp; grind) (by unfold Flo.Ab; simp)
    (fun m hm => ⟨((hs m hm).1 (i + 1) (by omega)).1.1, ((hs m hm).1 (i + 1) (by omega)).2.2.ab.1⟩) (by rw [hTT]; grind) (by omega)
  have sumD := fun i (hi : i < n) => fold_ok .f64 Flo.Nm Flo.W add_double (fun m => st1D m x (i + 1)) (fun m => bM' (gm m * X)) T ε hε0 hε hTt ms 0 0 0 0 zero_num.1 (by rw [zero_num.2]; unfold Flo.Ab; simp; grind) (by unfold Flo.Ab; simp)
    (fun m hm => ⟨((hd m hm).1 (i + 1) (by omega)).1.1, ((hd m hm).1 (i + 1) (by omega)).2.2.ab.1⟩) (by rw [hTT]; grind) (by omega)
  refine ⟨fun i hi => ⟨?_, ?_⟩, fun i hi => ⟨hx i hi, ?_, ?_⟩, fun i hi => ?_, ?_⟩
  · intro k m s hm hst
    rw [stAt_map, List.getElem?_map, hm] at hst
    simp at hst
    subst hst
    exact (hs m (List.mem_of_getElem? hm)).2 i hi
  · intro k s h
    rw [stAt_map] at h ⊢
    exact (sumS i hi).1 k s h
  · intro k m s hm hst
    rw [stDAt_map, List.getElem?_map, hm] at hst
    simp at hst
    subst hst
    exact (hd m (List.mem_of_getElem? hm)).2 i hi
  · intro k s h
    rw [stDAt_map] at h ⊢
    exact (sumD i hi).1 k s h
  · obtain ⟨-, a2, a3⟩ := sumS i hi
    obtain ⟨-, b2, b3⟩ := sumD i hi
    have eS : outS (stAt ms x (i + 1)) = (ms.map fun m => st1 m x (i + 1)).foldl (fun y s => opB .add .f32 y s.1) 0 := by rw [stAt_map]; rfl
    have eD : outD (stDAt ms x (i + 1)) = (ms.map fun m => st1D m x (i + 1)).foldl (fun y s => opB .add .f64 y s.1) 0 := by rw [stDAt_map]; rfl
    rw [← eS] at a2 a3
    rw [← eD] at b2 b3
    generalize outS (stAt ms x (i + 1)) = oS at *
    generalize outD (stDAt ms x (i + 1)) = oD at *
    refine ⟨a2, ?_⟩
    rw [hq, Nat.zero_add] at a3 b3
    -- the difference of the exact sums
    have hdiff : Flo.Ab (rs (fun m => Flo.W (st1D m x (i + 1)).1) ms - rs (fun m => S (st1 m x (i + 1)).1) ms) (rs (fun m => 2 * ((n : Rat) * (3 / 2 * bL (gm m * X)) * (51 / 50))) ms) := by
      rw [← rs_sub (fun m => Flo.W (st1D m x (i + 1)).1 - S (st1 m x (i + 1)).1) _ _ (fun _ => rfl) ms]
      refine rs_ab _ _ ms fun m hm => ?_
      have k1 := ((hs m hm).1 (i + 1) (by omega)).2.1.ab.1
      have k2 := ((hd m hm).1 (i + 1) (by omega)).2.1.ab.1
      have hL := (bL_le (gm m * X) (Rat.mul_nonneg (gm_nonneg m) hX0)).1
      have hin : ((i + 1 : Nat) : Rat) ≤ (n : Rat) := by exact_mod_cast hi
      have hi0 : (0 : Rat) ≤ ((i + 1 : Nat) : Rat) := by exact_mod_cast Nat.zero_le _
      have f1 : 1 + ((i + 1 : Nat) : Rat) / 100000 ≤ 51 / 50 := by grind
      have g1 := Rat.mul_le_mul_of_nonneg_right hin (show 0 ≤ 3 / 2 * bL (gm m * X) by grind)
      have g2 := Rat.mul_nonneg hi0 (show 0 ≤ 3 / 2 * bL (gm m * X) by grind)
      have g3 := Rat.mul_le_mul_of_nonneg_left f1 g2
      exact ((k2.sub k1).eq (by grind)).mono (by grind)
    have hsum : rs (fun m => 2 * ((n : Rat) * (3 / 2 * bL (gm m * X)) * (51 / 50))) ms ≤ 2 * ((n : Rat) * (3 / 2 * (42 / 10 * (rs gm ms * X * Flo.v) + (q : Rat) * (7 * Flo.es))) * (51 / 50)) := by
      have h1 := rs_le (fun m => 2 * ((n : Rat) * (3 / 2 * bL (gm m * X)) * (51 / 50))) (fun m => 2 * ((n : Rat) * (3 / 2 * (42 / 10 * (gm m * X * Flo.v) + 7 * Flo.es)) * (51 / 50))) ms (fun m hm => by
        have hL := (bL_le (gm m * X) (Rat.mul_nonneg (gm_nonneg m) hX0)).2
        have := Rat.mul_le_mul_of_nonneg_left hL hn0
        grind)
      have h2 := rs_lin (fun m => 2 * ((n : Rat) * (3 / 2 * (42 / 10 * (gm m * X * Flo.v) + 7 * Flo.es)) * (51 / 50))) gm (fun _ => 1) (2 * ((n : Rat) * (3 / 2 * (42 / 10 * (X * Flo.v))) * (51 / 50))) (2 * ((n : Rat) * (3 / 2 * (7 * Flo.es)) * (51 / 50))) (fun m => by grind) ms
      rw [rs_const, hq] at h2
      rw [h2] at h1
      grind
    have hez : 536870912 * Flo.es ≤ Flo.pw (-120) := by
      have : Flo.pw (-120) = Flo.pw 29 * Flo.pw (-149) := by rw [← Flo.pw_add]; rfl
      rw [this, show Flo.pw 29 = 536870912 from Flo.pw_nat 29]
      exact Rat.le_refl
    have hfin := drift_sum (n : Rat) (q : Rat) (rs gm ms * X) Flo.v Flo.es (Flo.pw (-120)) hn0 hnr hq0 hqr hP0 ve e0 hez
    have hv16 : Flo.v * 16 = Flo.pw (-20) := by
      have : Flo.pw (-20) = Flo.pw 4 * Flo.pw (-24) := by rw [← Flo.pw_add]; rfl
      rw [this, show Flo.pw 4 = 16 from Flo.pw_nat 4]; unfold Flo.v; grind
    rw [hv16] at hfin
    have hall : Flo.Ab (Flo.W oD - S oS) (((n : Rat) + (q : Rat) + 1) * (rs gm ms * X) * (27 / 32) * Flo.pw (-20) + Flo.pw (-120) / 2) := by
      refine (((b3.sub a3).add hdiff).eq (by grind)).mono ?_
      rw [hεd, hT]
      grind
    obtain ⟨nw, vw⟩ := wid_num a2
    rw [← vw] at hall
    have hz := Flo.pw_pos (-120)
    have h20 := Flo.pw_pos (-20)
    have hK0 : 0 ≤ ((n : Rat) + (q : Rat) + 1) * (rs gm ms * X) := Rat.mul_nonneg (by grind) hP0
    have hK := Rat.mul_le_mul_of_nonneg_right (show (n : Rat) + (q : Rat) + 1 ≤ 2048 by grind) hP0
    have hbig : ((n : Rat) + (q : Rat) + 1) * (rs gm ms * X) * (27 / 32) * Flo.pw (-20) + Flo.pw (-120) / 2 < Flo.pw 1023 := by
      have l1 : Flo.pw (-20) ≤ 1 := by rw [← Flo.pw_zero]; exact Flo.pw_le (by omega)
      have l2 : Flo.pw (-120) ≤ 1 := by rw [← Flo.pw_zero]; exact Flo.pw_le (by omega)
      have l3 : Flo.pw 112 = 4096 * Flo.pw 100 := by rw [show (112 : Int) = 12 + 100 from rfl, Flo.pw_add, show Flo.pw 12 = 4096 from Flo.pw_nat 12]
      have l4 := Flo.pw_lt (a := 112) (b := 1023) (by omega)
      have o : 1 ≤ Flo.pw 100 := by rw [← Flo.pw_zero]; exact Flo.pw_le (by omega)
      have k := Rat.mul_le_mul_of_nonneg_left l1 (show 0 ≤ ((n : Rat) + (q : Rat) + 1) * (rs gm ms * X) * (27 / 32) by grind)
      grind
    obtain ⟨r, r1, r2, r3⟩ := Flo.d_sub oD (wid oS) b2 nw _ hall hbig
    refine ⟨r, r1, r2, ((r3.add hall).eq (by grind)).mono ?_⟩
    unfold bDrift
    have u1 := Flo.u_le
    have u0 := Flo.u_pos
    have et0 : Flo.et ≤ Flo.pw (-120) / 4 := by
      have : Flo.pw (-1074) ≤ Flo.pw (-122) := Flo.pw_le (by omega)
      have e : Flo.pw (-120) = 4 * Flo.pw (-122) := by rw [show (-120 : Int) = 2 + -122 from rfl, Flo.pw_add, show Flo.pw 2 = 4 from Flo.pw_nat 2]
      unfold Flo.et; grind
    have hKp := Rat.mul_nonneg hK0 (Rat.le_of_lt h20)
    have k1 := Rat.mul_le_mul_of_nonneg_left u1 hKp
    have k2 := Rat.mul_le_mul_of_nonneg_left u1 (Rat.le_of_lt hz)
    grind
  · have hz := Flo.pw_pos (-120)
    have hK0 : 0 ≤ ((n : Rat) + (q : Rat) + 1) * (rs gm ms * X) := Rat.mul_nonneg (by grind) hP0
    have hKp := Rat.mul_nonneg hK0 (Rat.le_of_lt (Flo.pw_pos (-20)))
    unfold bDrift
    grind

end Go.Proofs.Ytlhhcchncobmhaa
