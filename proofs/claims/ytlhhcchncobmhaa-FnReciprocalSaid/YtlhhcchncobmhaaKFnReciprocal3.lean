/- Texts of a proof, put together: Traj, RingD, TrajS, Ev, IsBody, Clone, DampB, Fill, Less, Touch, Drift, TrajT, Test, Rung, StepA, BowN, RoomN, TuneB, Merge, Grow, Concat.
   Conditions: those that each statement names. -/
import Derived.Test.YtlhhcchncobmhaaKFnReciprocal2
import Derived.StillTailTactics
import Derived.Lib.SliceRun
import Derived.Deep.RegionHeld3
import Derived.Laws.AppendOwnNone
/- Plain facts: how far the states of a mode that is stepped with small errors lie from those of the mode that is stepped exactly. No program stands in it.
   Conditions: those that each statement names. -/
namespace Go.Proofs.Ytlhhcchncobmhaa
set_option linter.unusedSimpArgs false
set_option linter.unusedVariables false
open Go

/-! ### sizes in the plane -/
def N (a b B : Rat) : Prop := 0 ≤ B ∧ a * a + b * b ≤ B * B
theorem le_of_sq {a B : Rat} (hB : 0 ≤ B) (h : a * a ≤ B * B) : a ≤ B := by
  rcases Rat.le_total (a := a) (b := B) with g | g
  · exact g
  · have h1 := Rat.mul_nonneg (show 0 ≤ a - B by grind) hB
    have h2 := Rat.mul_nonneg (show 0 ≤ a - B by grind) (show 0 ≤ a - B by grind)
    by_cases e : a = B
    · grind
    · have : 0 < a - B := by grind
      have h3 := Rat.mul_pos this this
      grind
theorem N.ab {a b B : Rat} (h : N a b B) : Flo.Ab a B ∧ Flo.Ab b B := by
  obtain ⟨h0, h1⟩ := h
  have ha := square_nonneg a
  have hb := square_nonneg b
  have k1 := le_of_sq h0 (show a * a ≤ B * B by grind)
  have k2 := le_of_sq h0 (show b * b ≤ B * B by grind)
  have k3 := le_of_sq (a := -a) h0 (by grind)
  have k4 := le_of_sq (a := -b) h0 (by grind)
  exact ⟨⟨by grind, k1⟩, ⟨by grind, k2⟩⟩
theorem N.zero : N 0 0 0 := ⟨by grind, by grind⟩
theorem N.mono {a b B C : Rat} (h : N a b B) (hC : B ≤ C) : N a b C := by
  obtain ⟨h0, h1⟩ := h
  refine ⟨by grind, ?_⟩
  have h2 := Rat.mul_le_mul_of_nonneg_left hC h0
  have h3 := Rat.mul_le_mul_of_nonneg_right hC (show 0 ≤ C by grind)
  grind
theorem N.eq {a b a' b' B : Rat} (h : N a b B) (h1 : a = a') (h2 : b = b') : N a' b' B := h1 ▸ h2 ▸ h
theorem N.add {a b c d B C : Rat} (h : N a b B) (g : N c d C) : N (a + c) (b + d) (B + C) := by
  obtain ⟨h0, h1⟩ := h
  obtain ⟨g0, g1⟩ := g
  refine ⟨by grind, ?_⟩
  have hBC := Rat.mul_nonneg h0 g0
  have k1 := Rat.mul_le_mul_of_nonneg_left g1 (show 0 ≤ a * a + b * b by have := square_nonneg a; have := square_nonneg b; grind)
  have k2 := Rat.mul_le_mul_of_nonneg_right h1 (square_nonneg C)
  have k3 := square_nonneg (a * d - b * c)
  have k4 := le_of_sq (a := a * c + b * d) hBC (by grind)
  grind
theorem N.mul {a b c d B T : Rat} (h : N a b B) (hT : 0 ≤ T) (g : c * c + d * d ≤ T * T) : N (a * c - b * d) (a * d + b * c) (B * T) := by
  obtain ⟨h0, h1⟩ := h
  refine ⟨Rat.mul_nonneg h0 hT, ?_⟩
  have k1 := Rat.mul_le_mul_of_nonneg_left g (show 0 ≤ a * a + b * b by have := square_nonneg a; have := square_nonneg b; grind)
  have k2 := Rat.mul_le_mul_of_nonneg_right h1 (square_nonneg T)
  grind
theorem N.parts {a b L : Rat} (h : Flo.Ab a L) (g : Flo.Ab b L) : N a b (3 / 2 * L) := by
  have hL := h.nonneg
  have h2 := h.mul h
  have g2 := g.mul g
  unfold Flo.Ab at h2 g2
  have := square_nonneg L
  exact ⟨by grind, by grind⟩
theorem N.gain (g h x : Rat) : N (g * x) (h * x) ((ra g + ra h) * ra x) := by
  have a := ra_nonneg g
  have b := ra_nonneg h
  have c := ra_nonneg x
  refine ⟨Rat.mul_nonneg (by grind) c, ?_⟩
  have e1 := ra_sq g
  have e2 := ra_sq h
  have e3 := ra_sq x
  have k := Rat.mul_nonneg (Rat.mul_nonneg a b) (square_nonneg (ra x))
  have : g * x * (g * x) + h * x * (h * x) = (ra g * ra g) * (ra x * ra x) + (ra h * ra h) * (ra x * ra x) := by rw [e1, e2, e3]; grind
  rw [this]
  grind

/-! ### trajectories -/
def psum (x : Nat → Rat) : Nat → Rat
  | 0 => 0
  | i + 1 => psum x i + ra (x i)
theorem psum_nonneg (x : Nat → Rat) : ∀ i, 0 ≤ psum x i
  | 0 => by simp [psum]
  | i + 1 => by have := psum_nonneg x i; have := ra_nonneg (x i); simp only [psum]; grind

/-- the states of a mode that is stepped exactly -/
def zt (c d g h : Rat) (x : Nat → Rat) : Nat → Rat × Rat
  | 0 => (0, 0)
  | i + 1 => ((zt c d g h x i).1 * c - (zt c d g h x i).2 * d + g * x i, (zt c d g h x i).1 * d + (zt c d g h x i).2 * c + h * x i)

theorem pole_T {c d : Rat} (hp : c * c + d * d ≤ 1 + 1 / 100000) : c * c + d * d ≤ (1 + 1 / 200000) * (1 + 1 / 200000) := by grind

/-- growth by at most one part in 200,000 a step -/
theorem grow (i : Nat) (hi : i < 2000) : (1 + (i : Rat) / 100000) * (1 + 1 / 200000) ≤ 1 + ((i + 1 : Nat) : Rat) / 100000 := by
  have h1 : (i : Rat) ≤ 2000 := by have : ((i : Nat) : Rat) ≤ ((2000 : Nat) : Rat) := by exact_mod_cast (by omega : i ≤ 2000)
                                   exact this
  have h2 : ((i + 1 : Nat) : Rat) = (i : Rat) + 1 := by exact_mod_cast rfl
  rw [h2]
  grind

theorem zt_N (c d g h : Rat) (x : Nat → Rat) (hp : c * c + d * d ≤ 1 + 1 / 100000) : ∀ i, i ≤ 2000 → N (zt c d g h x i).1 (zt c d g h x i).2 ((ra g + ra h) * psum x i * (1 + (i : Rat) / 100000))
  | 0, _ => by
    have : (ra g + ra h) * psum x 0 * (1 + ((0 : Nat) : Rat) / 100000) = 0 := by simp [psum]
    rw [this]; exact N.zero
  | i + 1, hi => by
    have ih := zt_N c d g h x hp i (by omega)
    have h1 := (ih.mul (show (0 : Rat) ≤ 1 + 1 / 200000 by grind) (pole_T hp)).add (N.gain g h (x i))
    refine (h1.eq rfl rfl).mono ?_
    have hG : 0 ≤ ra g + ra h := by have := ra_nonneg g; have := ra_nonneg h; grind
    have hP := psum_nonneg x i
    have hgr := grow i (by omega)
    have k1 := Rat.mul_le_mul_of_nonneg_left hgr (Rat.mul_nonneg hG hP)
    have hx := Rat.mul_nonneg hG (ra_nonneg (x i))
    have h2 : ((i + 1 : Nat) : Rat) = (i : Rat) + 1 := by exact_mod_cast rfl
    have hi0 : (0 : Rat) ≤ (i : Rat) := by exact_mod_cast Nat.zero_le i
    have k2 := Rat.mul_nonneg hx (show (0 : Rat) ≤ ((i : Rat) + 1) / 100000 by grind)
    rw [h2] at k1 ⊢
    simp only [psum]
    grind

/-- a mode that is stepped with errors of at most L in each part -/
theorem traj (c d g h : Rat) (x : Nat → Rat) (hp : c * c + d * d ≤ 1 + 1 / 100000) (s : Nat → Rat × Rat) (h0 : s 0 = (0, 0)) (X M L : Rat) (n : Nat) (hn : n ≤ 2000) (hL : 0 ≤ L)
    (hX : ∀ i, i ≤ n → psum x i ≤ X) (hM : 51 / 50 * ((ra g + ra h) * X + (n : Rat) * (3 / 2 * L)) ≤ M) (Q : Nat → Prop) (q0 : Q 0)
    (hstep : ∀ i, i < n → Q i → N (s i).1 (s i).2 M → Q (i + 1) ∧ Flo.Ab ((s (i + 1)).1 - ((s i).1 * c - (s i).2 * d + g * x i)) L ∧ Flo.Ab ((s (i + 1)).2 - ((s i).1 * d + (s i).2 * c + h * x i)) L) :
    ∀ i, i ≤ n → Q i ∧ N ((s i).1 - (zt c d g h x i).1) ((s i).2 - (zt c d g h x i).2) ((i : Rat) * (3 / 2 * L) * (1 + (i : Rat) / 100000)) ∧ N (s i).1 (s i).2 M := by
  have hG : 0 ≤ ra g + ra h := by have := ra_nonneg g; have := ra_nonneg h; grind
  have toM : ∀ i, i ≤ n → N ((s i).1 - (zt c d g h x i).1) ((s i).2 - (zt c d g h x i).2) ((i : Rat) * (3 / 2 * L) * (1 + (i : Rat) / 100000)) → N (s i).1 (s i).2 M := by
    intro i hi e
    have hz := zt_N c d g h x hp i (by omega)
    refine ((e.add hz).eq (by grind) (by grind)).mono ?_
    have hin : (i : Rat) ≤ (n : Rat) := by exact_mod_cast hi
    have hi2 : (i : Rat) ≤ 2000 := by
      have : ((i : Nat) : Rat) ≤ ((2000 : Nat) : Rat) := by exact_mod_cast (by omega : i ≤ 2000)
      exact this
    have hi0 : (0 : Rat) ≤ (i : Rat) := by exact_mod_cast Nat.zero_le i
    have f : 1 + (i : Rat) / 100000 ≤ 51 / 50 := by grind
    have a1 := Rat.mul_le_mul_of_nonneg_right hin (show 0 ≤ 3 / 2 * L by grind)
    have a2 := Rat.mul_nonneg hi0 (show 0 ≤ 3 / 2 * L by grind)
    have a3 := Rat.mul_le_mul_of_nonneg_left f a2
    have b1 := Rat.mul_le_mul_of_nonneg_left (hX i hi) hG
    have b2 := Rat.mul_nonneg hG (psum_nonneg x i)
    have b3 := Rat.mul_le_mul_of_nonneg_left f b2
    grind
  intro i
  induction i with
  | zero =>
    intro hi
    have e : N ((s 0).1 - (zt c d g h x 0).1) ((s 0).2 - (zt c d g h x 0).2) (((0 : Nat) : Rat) * (3 / 2 * L) * (1 + ((0 : Nat) : Rat) / 100000)) := by
      rw [h0]
      simp only [zt]
      have : ((0 : Nat) : Rat) * (3 / 2 * L) * (1 + ((0 : Nat) : Rat) / 100000) = 0 := by simp
      rw [this]
      exact N.zero.eq (by grind) (by grind)
    exact ⟨q0, e, toM 0 hi e⟩
  | succ i ih =>
    intro hi
    obtain ⟨q, e, hs⟩ := ih (by omega)
    obtain ⟨q', l1, l2⟩ := hstep i (by omega) q hs
    have e' : N ((s (i + 1)).1 - (zt c d g h x (i + 1)).1) ((s (i + 1)).2 - (zt c d g h x (i + 1)).2) (((i + 1 : Nat) : Rat) * (3 / 2 * L) * (1 + ((i + 1 : Nat) : Rat) / 100000)) := by
      have k := (e.mul (show (0 : Rat) ≤ 1 + 1 / 200000 by grind) (pole_T hp)).add (N.parts l1 l2)
      refine (k.eq ?_ ?_).mono ?_
      · simp only [zt]; grind
      · simp only [zt]; grind
      · have hgr := grow i (by omega)
        have hi0 : (0 : Rat) ≤ (i : Rat) := by exact_mod_cast Nat.zero_le i
        have a2 := Rat.mul_nonneg hi0 (show 0 ≤ 3 / 2 * L by grind)
        have a3 := Rat.mul_le_mul_of_nonneg_left hgr a2
        have h2 : ((i + 1 : Nat) : Rat) = (i : Rat) + 1 := by exact_mod_cast rfl
        have a4 := Rat.mul_nonneg (show 0 ≤ 3 / 2 * L by grind) (show (0 : Rat) ≤ ((i : Rat) + 1) / 100000 by grind)
        rw [h2] at a3 ⊢
        grind
    exact ⟨q', e', toM (i + 1) hi e'⟩

end Go.Proofs.Ytlhhcchncobmhaa

/- The walk of RingDouble, where no NaN and no infinity is met: bit for bit.
   Conditions: those that each statement names. -/
namespace Go.Proofs.Ytlhhcchncobmhaa
set_option linter.unusedSimpArgs false
set_option linter.unusedVariables false
open Go Go.RowKit

def stepAllD (ms : List M4) (ss : List (Nat × Nat)) (x : Nat) : List (Nat × Nat) := List.zipWith (fun m s => stepD m s x) ms ss
def outD (ss : List (Nat × Nat)) : Nat := ss.foldl (fun y s => opB .add .f64 y s.1) 0
def cellsD (ss : List (Nat × Nat)) : List Value := ss.map fun s => .complex .f64 s.1 s.2
def cellsF (xs : List Nat) : List Value := xs.map (Value.float .f64)
def SumDOk (ss : List (Nat × Nat)) : Prop := ∀ (k : Nat) s, ss[k]? = some s → Calm .add .f64 (outD (ss.take k)) s.1
theorem outD_take (ss : List (Nat × Nat)) (k : Nat) (s : Nat × Nat) (h : ss[k]? = some s) : outD (ss.take (k + 1)) = opB .add .f64 (outD (ss.take k)) s.1 := by
  obtain ⟨hk, he⟩ := List.getElem?_eq_some_iff.1 h
  rw [List.take_succ_eq_append_getElem hk, he]
  simp [outD, List.foldl_append]
def mixedD (ms : List M4) (ss : List (Nat × Nat)) (x k : Nat) : List (Nat × Nat) := (stepAllD ms ss x).take k ++ ss.drop k
theorem mixedD_at (ms : List M4) (ss : List (Nat × Nat)) (x k : Nat) (s : Nat × Nat) (hl : ms.length = ss.length) (h : ss[k]? = some s) : (cellsD (mixedD ms ss x k))[k]? = some (.complex .f64 s.1 s.2) := by
  have hk := (List.getElem?_eq_some_iff.1 h).1
  have hlen : ((stepAllD ms ss x).take k).length = k := by simp [stepAllD]; omega
  unfold mixedD cellsD
  rw [List.getElem?_map, List.getElem?_append_right (by omega), hlen, Nat.sub_self, List.getElem?_drop, Nat.add_zero, h]
  rfl
theorem stepAllD_at (ms : List M4) (ss : List (Nat × Nat)) (x k : Nat) (m : M4) (s : Nat × Nat) (hm : ms[k]? = some m) (hs : ss[k]? = some s) : (stepAllD ms ss x)[k]? = some (stepD m s x) := by
  unfold stepAllD; rw [List.getElem?_zipWith, hm, hs]
theorem mixedD_step (ms : List M4) (ss : List (Nat × Nat)) (x k : Nat) (m : M4) (s : Nat × Nat) (hm : ms[k]? = some m) (hs : ss[k]? = some s) :
    (cellsD (mixedD ms ss x k)).set k (.complex .f64 (stepD m s x).1 (stepD m s x).2) = cellsD (mixedD ms ss x (k + 1)) := by
  obtain ⟨hkm, -⟩ := List.getElem?_eq_some_iff.1 hm
  obtain ⟨hks, hse⟩ := List.getElem?_eq_some_iff.1 hs
  have hat := stepAllD_at ms ss x k m s hm hs
  obtain ⟨hka, hae⟩ := List.getElem?_eq_some_iff.1 hat
  unfold mixedD
  rw [List.take_succ_eq_append_getElem hka, hae, List.drop_eq_getElem_cons hks, hse]
  simp only [cellsD, List.map_append, List.map_cons, List.map_nil, List.append_assoc, List.singleton_append]
  rw [List.set_append_right _ _ (by simp [stepAllD]; omega)]
  simp [stepAllD, show k - min k (min ms.length ss.length) = 0 from by omega]
theorem mixedD_after (ms : List M4) (ss : List (Nat × Nat)) (x k : Nat) (m : M4) (s : Nat × Nat) (hm : ms[k]? = some m) (hs : ss[k]? = some s) :
    (cellsD (mixedD ms ss x (k + 1)))[k]? = some (.complex .f64 (stepD m s x).1 (stepD m s x).2) := by
  obtain ⟨hkm, -⟩ := List.getElem?_eq_some_iff.1 hm
  obtain ⟨hks, hse⟩ := List.getElem?_eq_some_iff.1 hs
  rw [← mixedD_step ms ss x k m s hm hs, List.getElem?_set_self]
  simp [cellsD, mixedD, stepAllD]; omega
theorem mixedD_full (ms : List M4) (ss : List (Nat × Nat)) (x : Nat) (hl : ms.length = ss.length) : mixedD ms ss x ms.length = stepAllD ms ss x := by
  unfold mixedD
  rw [List.take_of_length_le (by simp [stepAllD]; omega), List.drop_of_length_le (by omega), List.append_nil]

def stDAt (ms : List M4) (x : Nat → Nat) : Nat → List (Nat × Nat)
  | 0 => ms.map fun _ => (0, 0)
  | i + 1 => stepAllD ms (stDAt ms x i) (wid (x i))
theorem stDAt_len (ms : List M4) (x : Nat → Nat) : ∀ i, (stDAt ms x i).length = ms.length
  | 0 => by simp [stDAt]
  | i + 1 => by simp [stDAt, stepAllD, stDAt_len ms x i]
def RingDOk (ms : List M4) (x : Nat → Nat) (n : Nat) : Prop :=
  ∀ i, i < n → Sm (x i) ∧ (∀ (k : Nat) m s, ms[k]? = some m → (stDAt ms x i)[k]? = some s → StepDOk m s (wid (x i))) ∧ SumDOk (stDAt ms x (i + 1))
def ringD (ms : List M4) (x : Nat → Nat) (n : Nat) : List Nat := (List.range n).map fun i => outD (stDAt ms x (i + 1))

/-- the outputs when k steps are done, and the next one is y so far -/
def outsDAt (ms : List M4) (x : Nat → Nat) (n k y : Nat) : List Nat := ((ringD ms x n).take k ++ List.replicate (n - k) 0).set k y
theorem outsD_zero (ms : List M4) (x : Nat → Nat) (n : Nat) : cellsF (outsDAt ms x n 0 0) = List.replicate n (.float .f64 0) := by
  unfold outsDAt cellsF
  cases n <;> simp [List.replicate_succ]
theorem outsD_cell (ms : List M4) (x : Nat → Nat) (n k y : Nat) (h : k < n) : (cellsF (outsDAt ms x n k y))[k]? = some (.float .f64 y) := by
  unfold outsDAt cellsF
  rw [List.getElem?_map, List.getElem?_set_self (by simp [ringD]; omega)]; rfl
theorem outsD_set (ms : List M4) (x : Nat → Nat) (n k y z : Nat) : (cellsF (outsDAt ms x n k y)).set k (.float .f64 z) = cellsF (outsDAt ms x n k z) := by
  unfold outsDAt cellsF
  rw [List.map_set, List.set_set, List.map_set]
theorem outsD_next (ms : List M4) (x : Nat → Nat) (n k : Nat) (h : k < n) : outsDAt ms x n k (outD (stDAt ms x (k + 1))) = outsDAt ms x n (k + 1) 0 := by
  have hk : k < (ringD ms x n).length := by simpa [ringD] using h
  have hv : (ringD ms x n)[k] = outD (stDAt ms x (k + 1)) := by simp [ringD]
  unfold outsDAt
  rw [List.take_succ_eq_append_getElem hk, hv, show n - k = (n - (k + 1)) + 1 from by omega, List.replicate_succ]
  rw [List.set_append_right _ _ (by simp [ringD]; omega)]
  have e : k - ((ringD ms x n).take k).length = 0 := by simp [ringD]; omega
  rw [e, List.set_cons_zero, List.append_assoc, List.singleton_append]
  rw [List.set_append_right _ _ (by simp [ringD]; omega)]
  have e2 : k + 1 - ((ringD ms x n).take k).length = 1 := by simp [ringD]; omega
  rw [e2, List.set_cons_succ]
  congr 2
  cases hq : n - (k + 1) <;> simp [List.replicate_succ]
theorem outsD_full (ms : List M4) (x : Nat → Nat) (n : Nat) : outsDAt ms x n n 0 = ringD ms x n := by
  unfold outsDAt; rw [List.take_of_length_le (by simp [ringD]), Nat.sub_self, List.replicate_zero, List.append_nil, List.set_eq_of_length_le (by simp [ringD])]

theorem info_c128 : (Try.prog.info? 41).map (fun i => (i.zero, i.size, i.bytes)) = some (some (.complex .f64 0 0), 1, 16) := by kernel_rfl
theorem info_f64 : (Try.prog.info? 49).map (fun i => (i.zero, i.size, i.bytes)) = some (some (.float .f64 0), 1, 8) := by kernel_rfl

/-- what holds at the head of a round: k steps are done; the states of the next one are done for the first j modes -/
def RingDI (B bb gs gu n q : Nat) (ms : List M4) (x : Nat → Nat) (bv : Value) (w : World) (k j y : Nat) (wr : World) : Prop :=
  wr.ownsRow B 41 1 (.slice (some ⟨gs, 0, none⟩) q q) q (cellsD (mixedD ms (stDAt ms x k) (wid (x k)) j)) ∧
    wr.ownsRow B 49 1 (.slice (some ⟨gu, 0, none⟩) n n) n (cellsF (outsDAt ms x n k y)) ∧ Has1 wr bb bv ∧ Nw w wr

def RingDP (B : Nat) (outs : List Nat) (w : World) (e : Ending) (w' : World) : Prop :=
  ∃ v : Value, e = .returned (.tuple #[v, .bool true]) ∧ w'.ownsRow B 49 1 v outs.length (cellsF outs) ∧ Nw w w'

def OutI (B bb gs gu n q : Nat) (ms : List M4) (x : Nat → Nat) (bv : Value) (w : World) (i : Value) (wr : World) : Prop :=
  ∃ k : Nat, k ≤ n ∧ i = .int .i64 (k : Int) ∧ RingDI B bb gs gu n q ms x bv w k 0 0 wr
def InI (B bb gs gu n q : Nat) (ms : List M4) (x : Nat → Nat) (bv : Value) (w : World) (k : Nat) (i : Value) (wr : World) : Prop :=
  ∃ j : Nat, j ≤ q ∧ i = .int .i64 (j : Int) ∧ RingDI B bb gs gu n q ms x bv w k j (outD ((stepAllD ms (stDAt ms x k) (wid (x k))).take j)) wr

set_option maxRecDepth 100000 in
set_option maxHeartbeats 12800000 in
theorem ringDouble_ok (ms : List M4) (hms : ∀ m ∈ ms, m.ok) (xs : List Nat) (n q bm bi : Nat) (v iv : Value) (hq : ms.length = q) (hq16 : q ≤ 16) (hxl : xs.length ≤ 1048576) (hn : n ≤ 2000) (w : World)
    (hm : w.ownsRow bm 61 2 v q (cellsM ms)) (hi : w.ownsRow bi 31 1 iv xs.length (cellsS xs)) (hok : RingDOk ms (inputOf xs) n) :
    Calls Try.prog 44 #[.agg #[v], iv, .int .i64 (n : Int)] w (RingDP w.heap.size (ringD ms (inputOf xs) n) w) := by
  obtain ⟨va, vc, rfl⟩ := own_shape' hm
  obtain ⟨ia, ic, rfl⟩ := own_shape' hi
  obtain ⟨j0, hj, hjz0, hjz1, hjz2⟩ := info_parts info_c128
  obtain ⟨f0, hf, hfz0, hfz1, hfz2⟩ := info_parts info_f64
  have hvlt : ∀ g, (Value.slice va q vc).ownBlock = some g → g < w.heap.size := fun g hg => (hm.lt g hg).2
  have Hvlt := Lib.hid hvlt
  have Hm := Lib.hid hm
  have Hi := Lib.hid hi
  have Hok := Lib.hid hok
  have Hq := Lib.hid hq
  have Hbox := Lib.hid (Has1.new w 69 (.slice va q vc))
  have Hn0 := Lib.hid ((Nw.refl w).alloc (.cells #[.slice va q vc] 69 (0, 0)))
  have Hm0 := Lib.hid (own_nw hm Hn0.out)
  clear hm hi hok hq hvlt
  go_enter Try.func44, Try.ntmps44
  go_wp2_with fail
  refine (implIsBody_ok ms hms q bm _ Hq.out hq16 _ Hm0.out).mono ?_
  rintro e w1 ⟨rfl, n1⟩
  have Hb1 := Lib.hid (Hbox.out.nw n1)
  have Hn1 := Lib.hid (Hn0.out.trans n1)
  clear n1
  go_wp2_with fail
  refine (isSteps_ok n hn _).mono ?_
  rintro e w2 ⟨rfl, rfl⟩
  obtain ⟨b0, b1, b2⟩ := Hb1.out
  have hs1 := Hn1.out.size
  have hb1lt : w.heap.size < w1.heap.size := b0
  go_wp2_with (first
    | (at_make; refine wpList_make_full _ rfl _ _ 43 rfl w.heap.size 41 j0 (.complex .f64 0 0) 1 Try.underlying43 hj hjz0 hjz1 _ _ _ _ q rfl rfl rfl rfl (by rw [hjz2]; omega) (by unfold maxLen; omega) hs1 ?_))
  intro w3 hown3 hgrow3
  have Hs3 := Lib.hid (show w3.ownsRow w.heap.size 41 1 (.slice (some ⟨w1.heap.size, 0, none⟩) q q) q (cellsD (mixedD ms (stDAt ms (inputOf xs) 0) (wid (inputOf xs 0)) 0)) from by
    rw [toList_madeCells_one] at hown3
    rw [show cellsD (mixedD ms (stDAt ms (inputOf xs) 0) (wid (inputOf xs 0)) 0) = List.replicate q (Value.complex .f64 0 0) from by simp only [mixedD, List.take_zero, List.nil_append, List.drop_zero, stDAt, cellsD, List.map_map, Function.comp_def]; rw [List.map_const', Hq.out]]
    exact hown3)
  have Hb3 := Lib.hid (Hb1.out.nw hgrow3)
  have Hn3 := Lib.hid (Hn1.out.trans hgrow3)
  have hs3 := Hn3.out.size
  have hlt3 : w1.heap.size < w3.heap.size := (Hs3.out.lt _ rfl).2
  clear hown3 hgrow3 b0 b1 b2
  go_wp2_with (first
    | (at_make; refine wpList_make_full _ rfl _ _ 77 rfl w.heap.size 49 f0 (.float .f64 0) 1 Try.underlying77 hf hfz0 hfz1 _ _ _ _ n rfl rfl rfl rfl (by rw [hfz2]; omega) (by unfold maxLen; omega) hs3 ?_))
  intro w4 hown4 hgrow4
  have Ho4 := Lib.hid (show w4.ownsRow w.heap.size 49 1 (.slice (some ⟨w3.heap.size, 0, none⟩) n n) n (cellsF (outsDAt ms (inputOf xs) n 0 0)) from by
    rw [toList_madeCells_one] at hown4
    rw [outsD_zero]
    exact hown4)
  have Hs4 := Lib.hid (own_nw Hs3.out hgrow4)
  have Hb4 := Lib.hid (Hb3.out.nw hgrow4)
  have Hn4 := Lib.hid (Hn3.out.trans hgrow4)
  clear hown4 hgrow4
  go_wp2_with fail
  go_loopw [30] (fun i wr => OutI w.heap.size w.heap.size w1.heap.size w3.heap.size n q ms (inputOf xs) (.slice va q vc) w i wr) (fun i _ => n - (intOf i).toNat)
  case atStart => exact ⟨0, by omega, rfl, Hs4.out, Ho4.out, Hb4.out, Hn4.out⟩
  case round =>
    obtain ⟨k, hk, rfl, hst, hou, hbx, hnw⟩ := hrel
    have Hst := Lib.hid hst
    have Hou := Lib.hid hou
    have Hbx := Lib.hid hbx
    have Hnw := Lib.hid hnw
    clear hst hou hbx hnw
    by_cases hlt : k < n
    · obtain ⟨wo, hwo⟩ : ∃ wo, wo = wr := ⟨_, rfl⟩
      subst hwo
      obtain ⟨b0, b1, b2⟩ := Hbx.out
      have Hk := Lib.hid (Hok.out k hlt)
      have hx := Hk.out.1
      have a1 := fcv_up hx
      have a2 := fcd_up hx
      have Hir := Lib.hid (own_nw Hi.out Hnw.out)
      clear hx
      go_wp2_with fail
      refine (sampleAt_any xs _ bi k _ rfl (by omega) hxl _ Hir.out).mono ?_
      rintro e w5 ⟨rfl, rfl⟩
      go_wp2_with fail
      go_loopw [40] (fun i wr => InI w.heap.size w.heap.size w1.heap.size w3.heap.size n q ms (inputOf xs) (.slice va q vc) w k i wr) (fun i _ => q - (intOf i).toNat)
      case atStart => exact ⟨0, by omega, rfl, Hst.out, Hou.out, Hbx.out, Hnw.out⟩
      case round =>
        obtain ⟨j, hj, rfl, hst, hou, hbx, hnw⟩ := hrel
        have Jst := Lib.hid hst
        have Jou := Lib.hid hou
        have Jbx := Lib.hid hbx
        have Jnw := Lib.hid hnw
        clear hst hou hbx hnw b1 b2
        by_cases hjt : j < q
        · obtain ⟨m, hmk⟩ : ∃ m, ms[j]? = some m := ⟨ms[j]'(by rw [Hq.out]; exact hjt), List.getElem?_eq_getElem _⟩
          obtain ⟨s, hsk⟩ : ∃ s, (stDAt ms (inputOf xs) k)[j]? = some s := ⟨(stDAt ms (inputOf xs) k)[j]'(by rw [stDAt_len, Hq.out]; exact hjt), List.getElem?_eq_getElem _⟩
          have Hmr := Lib.hid (own_nw Hm.out Jnw.out)
          obtain ⟨g, cap, hv, hcap, hmax, hgs, e1, e2⟩ := own_mode Hmr.out hmk Hq.out.symm
          cases hv
          have Hmk := Lib.hid hmk
          have Hsk := Lib.hid hsk
          have Hmo := Lib.hid (hms m (List.mem_of_getElem? hmk))
          clear hmk hsk
          unfold maxLen at hmax
          go_upto_region 12 with fail
          have K1 := Lib.hid (HasMode.new wr 61 m.pr m.pi m.gr m.gi)
          have K2 := Lib.hid (Jst.out.alloc (.cells #[.complex .f32 m.pr m.pi, .complex .f32 m.gr m.gi] 61 (0, 0)))
          have K3 := Lib.hid (Jou.out.alloc (.cells #[.complex .f32 m.pr m.pi, .complex .f32 m.gr m.gi] 61 (0, 0)))
          have K4 := Lib.hid (Jbx.out.alloc (.cells #[.complex .f32 m.pr m.pi, .complex .f32 m.gr m.gi] 61 (0, 0)))
          have K5 := Lib.hid (Jnw.out.alloc (.cells #[.complex .f32 m.pr m.pi, .complex .f32 m.gr m.gi] 61 (0, 0)))
          have hss := (Jst.out.lt _ rfl)
          have hoo := (Jou.out.lt _ rfl)
          clear e1 e2
          go_cut [] (fun wx => RingDI w.heap.size w.heap.size w1.heap.size w3.heap.size n q ms (inputOf xs) (.slice (some ⟨g, 0, none⟩) q vc) w k (j + 1) (outD ((stepAllD ms (stDAt ms (inputOf xs) k) (wid (inputOf xs k))).take j)) wx)
          case first =>
            obtain ⟨w4, hw4⟩ : ∃ w4, w4 = wr.alloc (.cells #[.complex .f32 m.pr m.pi, .complex .f32 m.gr m.gi] 61 (0, 0)) := ⟨_, rfl⟩
            rw [← hw4] at K1 K2 K3 K4 K5
            rw [← hw4]
            clear hw4
            obtain ⟨l0, l1, l2, l3, l4⟩ := K1.out
            have e3 := K2.out.cellAt j (by omega)
            rw [mixedD_at ms (stDAt ms (inputOf xs) k) (wid (inputOf xs k)) j s (stDAt_len ms (inputOf xs) k).symm Hsk.out] at e3
            have e4 := K2.out.frozenAt j
            have Hsd := Lib.hid (Hk.out.2.1 j m s Hmk.out Hsk.out)
            obtain ⟨n1, n2, n3, n4⟩ := Hmo.out.nums
            refine wp_region_still_tail 14 (by kernel_rfl) (by kernel_rfl) ?_
            simp only [List.take_succ_cons, List.take_zero, List.drop_succ_cons, List.drop_zero]
            still_step
            still_step
            still_step
            still_step
            still_call ((implWiden_fin _ _ _ n1 n2).mono fun _ _ h => ⟨h.1, h.2.symm⟩)
            still_step
            still_step
            still_call ((implWiden_fin _ _ _ n3 n4).mono fun _ _ h => ⟨h.1, h.2.symm⟩)
            still_step
            still_step
            still_step
            still_step
            still_step
            still_call ((stepDouble_ok m s (wid (inputOf xs k)) _ Hsd.out).mono fun _ _ h => ⟨h.1, h.2.symm⟩)
            refine wpStill_nil ?_
            change wpList _ _ _ _ _ (w4.drewN 1)
            have G2 := Lib.hid (own_nw K2.out ((Nw.refl w4).draw 1))
            have G3 := Lib.hid (own_nw K3.out ((Nw.refl w4).draw 1))
            have G4 := Lib.hid (K4.out.draw 1)
            have G5 := Lib.hid (K5.out.draw 1)
            have hs4 := (K2.out.lt _ rfl)
            clear e3 e4 l1 l2 l3 l4
            generalize w4.drewN 1 = w5 at *
            have e3 := G2.out.cellAt j (by omega)
            rw [mixedD_at ms (stDAt ms (inputOf xs) k) (wid (inputOf xs k)) j s (stDAt_len ms (inputOf xs) k).symm Hsk.out] at e3
            have e4 := G2.out.frozenAt j
            have hset := G2.out.stored j (.complex .f64 (stepD m s (wid (inputOf xs k))).1 (stepD m s (wid (inputOf xs k))).2)
            have hfin : RingDI w.heap.size w.heap.size w1.heap.size w3.heap.size n q ms (inputOf xs) (.slice (some ⟨g, 0, none⟩) q vc) w k (j + 1) (outD ((stepAllD ms (stDAt ms (inputOf xs) k) (wid (inputOf xs k))).take j)) (w5.setCell ⟨w1.heap.size, j, none⟩ (.complex .f64 (stepD m s (wid (inputOf xs k))).1 (stepD m s (wid (inputOf xs k))).2)) :=
              ⟨mixedD_step ms (stDAt ms (inputOf xs) k) (wid (inputOf xs k)) j m s Hmk.out Hsk.out ▸ hset.1, G3.out.kept hset.2 (.inr (fun e => by simp [Value.ownBlock] at e; omega)), G4.out.set (by show w1.heap.size ≠ w.heap.size; omega) _, G5.out.set (by show w.heap.size ≤ w1.heap.size; omega) _⟩
            have Hfin := Lib.hid hfin
            clear hfin hset
            go_wp2_with fail
            go_meet
            exact Hfin.out
          case rest =>
            obtain ⟨c1, c2, c3, c4⟩ := hcut
            have C1 := Lib.hid c1
            have C2 := Lib.hid c2
            have C3 := Lib.hid c3
            have C4 := Lib.hid c4
            clear c1 c2 c3 c4
            have e3 := C1.out.cellAt j (by omega)
            rw [mixedD_after ms (stDAt ms (inputOf xs) k) (wid (inputOf xs k)) j m s Hmk.out Hsk.out] at e3
            have e5 := C2.out.cellAt k (by omega)
            rw [outsD_cell ms (inputOf xs) n k _ hlt] at e5
            have e6 := C2.out.frozenAt k
            have hsk := stepAllD_at ms (stDAt ms (inputOf xs) k) (wid (inputOf xs k)) j m s Hmk.out Hsk.out
            have hcalm := Hk.out.2.2 j _ hsk
            rw [show (stDAt ms (inputOf xs) (k + 1)).take j = (stepAllD ms (stDAt ms (inputOf xs) k) (wid (inputOf xs k))).take j from rfl] at hcalm
            have r1 := hcalm.run (P := Try.prog) 49
            have Hout := Lib.hid (outD_take _ j _ hsk)
            clear hcalm hsk
            go_wp2_with fail
            refine wp_region_still_tail 10 (by kernel_rfl) (by kernel_rfl) ?_
            simp only [List.take_succ_cons, List.take_zero, List.drop_succ_cons, List.drop_zero]
            repeat still_step
            refine wpStill_nil ?_
            change wpList _ _ _ _ _ (wc.drewN 1)
            have G1 := Lib.hid (own_nw C1.out ((Nw.refl wc).draw 1))
            have G2 := Lib.hid (own_nw C2.out ((Nw.refl wc).draw 1))
            have G3 := Lib.hid (C3.out.draw 1)
            have G4 := Lib.hid (C4.out.draw 1)
            clear e3 e5 e6
            generalize wc.drewN 1 = w5 at *
            have e5 := G2.out.cellAt k (by omega)
            rw [outsD_cell ms (inputOf xs) n k _ hlt] at e5
            have e6 := G2.out.frozenAt k
            have hset := G2.out.stored k (.float .f64 (opB .add .f64 (outD ((stepAllD ms (stDAt ms (inputOf xs) k) (wid (inputOf xs k))).take j)) (stepD m s (wid (inputOf xs k))).1))
            rw [outsD_set, ← Hout.out] at hset
            have hfin : RingDI w.heap.size w.heap.size w1.heap.size w3.heap.size n q ms (inputOf xs) (.slice (some ⟨g, 0, none⟩) q vc) w k (j + 1) (outD ((stepAllD ms (stDAt ms (inputOf xs) k) (wid (inputOf xs k))).take (j + 1))) (w5.setCell ⟨w3.heap.size, k, none⟩ (.float .f64 (opB .add .f64 (outD ((stepAllD ms (stDAt ms (inputOf xs) k) (wid (inputOf xs k))).take j)) (stepD m s (wid (inputOf xs k))).1))) := by
              rw [← Hout.out]
              exact ⟨G1.out.kept hset.2 (.inr (fun e => by simp [Value.ownBlock] at e; omega)), hset.1, G3.out.set (by show w3.heap.size ≠ w.heap.size; omega) _, G4.out.set (by show w.heap.size ≤ w3.heap.size; omega) _⟩
            have Hfin := Lib.hid hfin
            clear hfin hset
            go_wp2_with fail
            go_roundw
            case rel => exact ⟨j + 1, by omega, by rw [show ((j + 1 : Nat) : Int) = (j : Int) + 1 from by omega], Hfin.out⟩
            case measure => simp only [intOf]; omega
        · obtain rfl : j = q := by omega
          have Hdone := Lib.hid (show RingDI w.heap.size w.heap.size w1.heap.size w3.heap.size n j ms (inputOf xs) (.slice va j vc) w (k + 1) 0 0 wr from by
            refine ⟨?_, ?_, Jbx.out, Jnw.out⟩
            · have := Jst.out
              rw [show mixedD ms (stDAt ms (inputOf xs) k) (wid (inputOf xs k)) j = stepAllD ms (stDAt ms (inputOf xs) k) (wid (inputOf xs k)) from by rw [← mixedD_full ms _ _ (stDAt_len ms (inputOf xs) k).symm, Hq.out]] at this
              exact this
            · have := Jou.out
              rw [show (stepAllD ms (stDAt ms (inputOf xs) k) (wid (inputOf xs k))).take j = stDAt ms (inputOf xs) (k + 1) from List.take_of_length_le (by simp [stepAllD, stDAt_len, Hq.out]), outsD_next ms (inputOf xs) n k hlt] at this
              exact this)
          go_wp2_with fail
          go_roundw
          case rel => exact ⟨k + 1, by omega, by rw [show ((k + 1 : Nat) : Int) = (k : Int) + 1 from by omega], Hdone.out⟩
          case measure => simp only [intOf]; omega
    · obtain rfl : k = n := by omega
      go_wp2_with fail
      go_ret2
      refine ⟨_, rfl, ?_, Hnw.out⟩
      have := Hou.out
      rw [outsD_full] at this
      simpa [ringD] using this

end Go.Proofs.Ytlhhcchncobmhaa

/- Plain facts: ringing in single precision and in double precision stays near exact ringing. No program stands in it.
   Conditions: those that each statement names. -/
namespace Go.Proofs.Ytlhhcchncobmhaa
set_option linter.unusedSimpArgs false
set_option linter.unusedVariables false
open Go

/-! ### one mode -/
def st1 (m : M4) (x : Nat → Nat) : Nat → Nat × Nat
  | 0 => (0, 0)
  | i + 1 => stepS m (st1 m x i) (x i)
def st1D (m : M4) (x : Nat → Nat) : Nat → Nat × Nat
  | 0 => (0, 0)
  | i + 1 => stepD m (st1D m x i) (wid (x i))
theorem zip_map (f : M4 → Nat × Nat → Nat × Nat) (g : M4 → Nat × Nat) : ∀ ms : List M4, List.zipWith f ms (ms.map g) = ms.map fun m => f m (g m)
  | [] => rfl
  | m :: ms => by simp [zip_map f g ms]
theorem stAt_map (ms : List M4) (x : Nat → Nat) : ∀ i, stAt ms x i = ms.map fun m => st1 m x i
  | 0 => rfl
  | i + 1 => by
    simp only [stAt, stepAll, stAt_map ms x i]
    exact zip_map (fun m s => stepS m s (x i)) (fun m => st1 m x i) ms
theorem stDAt_map (ms : List M4) (x : Nat → Nat) : ∀ i, stDAt ms x i = ms.map fun m => st1D m x i
  | 0 => rfl
  | i + 1 => by
    simp only [stDAt, stepAllD, stDAt_map ms x i]
    exact zip_map (fun m s => stepD m s (wid (x i))) (fun m => st1D m x i) ms

def gm (m : M4) : Rat := ra (S m.gr) + ra (S m.gi)
theorem gm_nonneg (m : M4) : 0 ≤ gm m := by unfold gm; have := ra_nonneg (S m.gr); have := ra_nonneg (S m.gi); grind
/-- bounds, by the product P of a mode's gain and the input's sum -/
def bM' (P : Rat) : Rat := 26 / 25 * P + 60000 * Flo.es
def bM (P : Rat) : Rat := 21 / 20 * P + 65536 * Flo.es
def bL (P : Rat) : Rat := (2 * bM P + 2 * P) * Flo.v + (bM P + bM' P + P) * Flo.v / 1024 + 6 * Flo.es
theorem bL_le (P : Rat) (hP : 0 ≤ P) : 0 ≤ bL P ∧ bL P ≤ 42 / 10 * (P * Flo.v) + 7 * Flo.es := by
  have ve := Flo.v_eq
  have hv : Flo.v = 1 / 16777216 := by grind
  have e0 := Flo.es_pos
  unfold bL bM bM'
  rw [hv]
  constructor <;> grind
theorem bM'_ok (P : Rat) (hP : 0 ≤ P) (n : Nat) (hn : n ≤ 2000) : 51 / 50 * (P + (n : Rat) * (3 / 2 * bL P)) ≤ bM' P := by
  obtain ⟨h0, h1⟩ := bL_le P hP
  have hn1 : (n : Rat) ≤ 2000 := by
    have : ((n : Nat) : Rat) ≤ ((2000 : Nat) : Rat) := by exact_mod_cast hn
    exact this
  have hn0 : (0 : Rat) ≤ (n : Rat) := by exact_mod_cast Nat.zero_le n
  have k := Rat.mul_le_mul_of_nonneg_right hn1 (show 0 ≤ 3 / 2 * bL P by grind)
  have ve := Flo.v_eq
  have hv : Flo.v = 1 / 16777216 := by grind
  have e0 := Flo.es_pos
  rw [hv] at h1
  unfold bM'
  grind

theorem bounds_110 (P : Rat) (hP : 0 ≤ P) (h : P ≤ Flo.pw 100) : bM' P ≤ Flo.pw 110 ∧ bM P ≤ Flo.pw 110 ∧ P ≤ Flo.pw 110 := by
  have l : Flo.pw 110 = 1024 * Flo.pw 100 := by rw [show (110 : Int) = 10 + 100 from rfl, Flo.pw_add, show Flo.pw 10 = 1024 from Flo.pw_nat 10]
  have o : 1 ≤ Flo.pw 100 := by rw [← Flo.pw_zero]; exact Flo.pw_le (by omega)
  have es1 := small'.es1
  have e0 := Flo.es_pos
  unfold bM bM'
  refine ⟨by grind, by grind, by grind⟩

theorem inner_le (x : Nat → Rat) (X : Rat) (n i : Nat) (hi : i < n) (hX : ∀ i, i ≤ n → psum x i ≤ X) : ra (x i) ≤ X := by
  have h := hX (i + 1) (by omega)
  have := psum_nonneg x i
  simp only [psum] at h
  grind

/-- what one step needs, from the bound on the state -/
theorem step_in (m : M4) (hm : m.ok) (a b y X : Rat) (hy : ra y ≤ X) (hN : N a b (bM' (gm m * X))) :
    Flo.Ab (a * S m.pr - b * S m.pi) (bM (gm m * X)) ∧ Flo.Ab (a * S m.pi + b * S m.pr) (bM (gm m * X)) ∧ Flo.Ab (S m.gr * y) (gm m * X) ∧ Flo.Ab (S m.gi * y) (gm m * X) ∧ 0 ≤ gm m * X := by
  have hX0 : 0 ≤ X := by have := ra_nonneg y; grind
  have hP := Rat.mul_nonneg (gm_nonneg m) hX0
  have e0 := Flo.es_pos
  have k := (hN.mul (show (0 : Rat) ≤ 1 + 1 / 200000 by grind) (pole_T (Valid.square hm))).mono (show bM' (gm m * X) * (1 + 1 / 200000) ≤ bM (gm m * X) by unfold bM' bM; grind)
  have g := (N.gain (S m.gr) (S m.gi) y).mono (show (ra (S m.gr) + ra (S m.gi)) * ra y ≤ gm m * X from Rat.mul_le_mul_of_nonneg_left hy (gm_nonneg m))
  exact ⟨k.ab.1, k.ab.2, g.ab.1, g.ab.2, hP⟩

theorem zero_single : Sm 0 ∧ S 0 = 0 := by
  have h : Ieee.single.read 0 = .number false 0 (-149) := by decide
  exact ⟨⟨_, _, _, h⟩, by rw [show S 0 = _ from Flo.V_eq h]; exact Flo.val_zero _ _⟩

theorem mode_single (m : M4) (hm : m.ok) (x : Nat → Nat) (n : Nat) (hn : n ≤ 2000) (hx : ∀ i, i < n → Sm (x i)) (X : Rat) (hX : ∀ i, i ≤ n → psum (fun j => S (x j)) i ≤ X) (hP : gm m * X ≤ Flo.pw 100) (hX0 : 0 ≤ X) :
    (∀ i, i ≤ n → (Sm (st1 m x i).1 ∧ Sm (st1 m x i).2) ∧ N (S (st1 m x i).1 - (zt (S m.pr) (S m.pi) (S m.gr) (S m.gi) (fun j => S (x j)) i).1) (S (st1 m x i).2 - (zt (S m.pr) (S m.pi) (S m.gr) (S m.gi) (fun j => S (x j)) i).2) ((i : Rat) * (3 / 2 * bL (gm m * X)) * (1 + (i : Rat) / 100000)) ∧
      N (S (st1 m x i).1) (S (st1 m x i).2) (bM' (gm m * X))) ∧ ∀ i, i < n → StepOk m (st1 m x i) (x i) := by
  have hP0 := Rat.mul_nonneg (gm_nonneg m) hX0
  obtain ⟨t1, t2, t3⟩ := bounds_110 _ hP0 hP
  have l2 := Flo.pw_le (show (110 : Int) ≤ 112 by omega)
  have one : ∀ i, i < n → (Sm (st1 m x i).1 ∧ Sm (st1 m x i).2) → N (S (st1 m x i).1) (S (st1 m x i).2) (bM' (gm m * X)) → StepOk m (st1 m x i) (x i) ∧ (Sm (st1 m x (i + 1)).1 ∧ Sm (st1 m x (i + 1)).2) ∧
      Flo.Ab (S (st1 m x (i + 1)).1 - (S (st1 m x i).1 * S m.pr - S (st1 m x i).2 * S m.pi + S m.gr * S (x i))) (bL (gm m * X)) ∧ Flo.Ab (S (st1 m x (i + 1)).2 - (S (st1 m x i).1 * S m.pi + S (st1 m x i).2 * S m.pr + S m.gi * S (x i))) (bL (gm m * X)) := by
    intro i hi q hN
    obtain ⟨k1, k2, k3, k4, -⟩ := step_in m hm _ _ (S (x i)) X (inner_le (fun j => S (x j)) X n i hi hX) hN
    obtain ⟨a1, a2, a3, a4, a5⟩ := step_ok m hm (st1 m x i) (x i) q.1 q.2 (hx i hi) (bM' (gm m * X)) (bM (gm m * X)) (gm m * X) hN.ab.1 hN.ab.2 k1 k2 k3 k4 t1 (by grind) (by grind)
    exact ⟨a1, ⟨a2, a3⟩, a4.mono (by unfold bL; exact Rat.le_refl), a5.mono (by unfold bL; exact Rat.le_refl)⟩
  have tr := traj (S m.pr) (S m.pi) (S m.gr) (S m.gi) (fun j => S (x j)) (Valid.square hm) (fun i => (S (st1 m x i).1, S (st1 m x i).2)) (by simp only [st1]; rw [zero_single.2]) X (bM' (gm m * X)) (bL (gm m * X)) n hn (bL_le _ hP0).1 hX (bM'_ok _ hP0 n hn) (fun i => Sm (st1 m x i).1 ∧ Sm (st1 m x i).2) ⟨zero_single.1, zero_single.1⟩ (fun i hi q hN => (one i hi q hN).2)
  exact ⟨tr, fun i hi => (one i hi (tr i (by omega)).1 (tr i (by omega)).2.2).1⟩

theorem mode_double (m : M4) (hm : m.ok) (x : Nat → Nat) (n : Nat) (hn : n ≤ 2000) (hx : ∀ i, i < n → Sm (x i)) (X : Rat) (hX : ∀ i, i ≤ n → psum (fun j => S (x j)) i ≤ X) (hP : gm m * X ≤ Flo.pw 100) (hX0 : 0 ≤ X) :
    (∀ i, i ≤ n → (Flo.Nm (st1D m x i).1 ∧ Flo.Nm (st1D m x i).2) ∧ N (Flo.W (st1D m x i).1 - (zt (S m.pr) (S m.pi) (S m.gr) (S m.gi) (fun j => S (x j)) i).1) (Flo.W (st1D m x i).2 - (zt (S m.pr) (S m.pi) (S m.gr) (S m.gi) (fun j => S (x j)) i).2) ((i : Rat) * (3 / 2 * bL (gm m * X)) * (1 + (i : Rat) / 100000)) ∧
      N (Flo.W (st1D m x i).1) (Flo.W (st1D m x i).2) (bM' (gm m * X))) ∧ ∀ i, i < n → StepDOk m (st1D m x i) (wid (x i)) := by
  have hP0 := Rat.mul_nonneg (gm_nonneg m) hX0
  obtain ⟨t1, t2, t3⟩ := bounds_110 _ hP0 hP
  have l2 := Flo.pw_le (show (110 : Int) ≤ 112 by omega)
  have one : ∀ i, i < n → (Flo.Nm (st1D m x i).1 ∧ Flo.Nm (st1D m x i).2) → N (Flo.W (st1D m x i).1) (Flo.W (st1D m x i).2) (bM' (gm m * X)) → StepDOk m (st1D m x i) (wid (x i)) ∧ (Flo.Nm (st1D m x (i + 1)).1 ∧ Flo.Nm (st1D m x (i + 1)).2) ∧
      Flo.Ab (Flo.W (st1D m x (i + 1)).1 - (Flo.W (st1D m x i).1 * S m.pr - Flo.W (st1D m x i).2 * S m.pi + S m.gr * S (x i))) (bL (gm m * X)) ∧ Flo.Ab (Flo.W (st1D m x (i + 1)).2 - (Flo.W (st1D m x i).1 * S m.pi + Flo.W (st1D m x i).2 * S m.pr + S m.gi * S (x i))) (bL (gm m * X)) := by
    intro i hi q hN
    obtain ⟨k1, k2, k3, k4, -⟩ := step_in m hm _ _ (S (x i)) X (inner_le (fun j => S (x j)) X n i hi hX) hN
    obtain ⟨nx, vx⟩ := wid_num (hx i hi)
    rw [← vx] at k3 k4
    obtain ⟨a1, a2, a3, a4, a5⟩ := stepD_ok m hm (st1D m x i) (wid (x i)) q.1 q.2 nx (bM' (gm m * X)) (bM (gm m * X)) (gm m * X) hN.ab.1 hN.ab.2 k1 k2 k3 k4 t1 (by grind) (by grind)
    rw [vx] at a4 a5
    exact ⟨a1, ⟨a2, a3⟩, a4.mono (by unfold bL; exact Rat.le_refl), a5.mono (by unfold bL; exact Rat.le_refl)⟩
  have tr := traj (S m.pr) (S m.pi) (S m.gr) (S m.gi) (fun j => S (x j)) (Valid.square hm) (fun i => (Flo.W (st1D m x i).1, Flo.W (st1D m x i).2)) (by simp only [st1D]; rw [zero_num.2]) X (bM' (gm m * X)) (bL (gm m * X)) n hn (bL_le _ hP0).1 hX (bM'_ok _ hP0 n hn) (fun i => Flo.Nm (st1D m x i).1 ∧ Flo.Nm (st1D m x i).2) ⟨zero_num.1, zero_num.1⟩ (fun i hi q hN => (one i hi q hN).2)
  exact ⟨tr, fun i hi => (one i hi (tr i (by omega)).1 (tr i (by omega)).2.2).1⟩

end Go.Proofs.Ytlhhcchncobmhaa

/- Equal numbers, 0 and -0 alike: every operation takes equal numbers to equal numbers; what is read decides what an operation gives. No program stands in it.
   Conditions: none beyond those that each statement names. -/
namespace Go.Proofs.Ytlhhcchncobmhaa
set_option linter.unusedSimpArgs false
set_option linter.unusedVariables false
open Go
namespace Flo
open Ieee

def Zr (f : Format) (a : Nat) : Prop := ∃ s p, f.read a = .number s 0 p
/-- the same bits, or two zeros -/
def Ev (f : Format) (a b : Nat) : Prop := a = b ∨ (Zr f a ∧ Zr f b)
theorem Ev.refl (f : Format) (a : Nat) : Ev f a a := .inl rfl
theorem Ev.symm {f : Format} {a b : Nat} (h : Ev f a b) : Ev f b a := by
  rcases h with rfl | ⟨h1, h2⟩
  · exact .inl rfl
  · exact .inr ⟨h2, h1⟩
theorem Ev.trans {f : Format} {a b c : Nat} (h : Ev f a b) (k : Ev f b c) : Ev f a c := by
  rcases h with rfl | ⟨h1, h2⟩
  · exact k
  · rcases k with rfl | ⟨k1, k2⟩
    · exact .inr ⟨h1, h2⟩
    · exact .inr ⟨h1, k2⟩
theorem Ev.zr {f : Format} {a b : Nat} (h : Ev f a b) (k : Zr f b) : Zr f a := by
  rcases h with rfl | ⟨h1, h2⟩
  · exact k
  · exact h1
def EvO (f : Format) : Option Nat → Option Nat → Prop
  | none, none => True
  | some a, some b => Ev f a b
  | _, _ => False
theorem EvO.refl (f : Format) (a : Option Nat) : EvO f a a := by cases a <;> simp [EvO, Ev.refl]
theorem EvO.trans {f : Format} {a b c : Option Nat} (h : EvO f a b) (k : EvO f b c) : EvO f a c := by
  cases a <;> cases b <;> cases c <;> simp only [EvO] at * <;> first | trivial | contradiction | exact Ev.trans h k
theorem EvO.getD {f : Format} {a b : Option Nat} (h : EvO f a b) : Ev f (a.getD 0) (b.getD 0) := by
  cases a <;> cases b <;> simp only [EvO] at h <;> first | contradiction | exact Ev.refl f _ | exact h

theorem write_zero (f : Format) (s : Bool) (p : Int) : Zr f (f.write (.number s 0 p)) := by
  refine ⟨s, f.leastPlace, ?_⟩
  show f.read (f.nearest s 0 p) = _
  have : f.nearest s 0 p = f.word s 0 := by unfold Format.nearest; simp
  rw [this, zero_read]

/-- of equal numbers other than 0 the same word is written -/
theorem write_same (f : Format) (s : Bool) (m n : Nat) (p q : Int) (hm : m ≠ 0) (h : (m : Rat) * pw p = (n : Rat) * pw q) : f.write (.number s m p) = f.write (.number s n q) := by
  have hn : n ≠ 0 := by
    intro hn; subst hn
    exact hm (mag_zero (by rw [h]; simp))
  show f.nearest s m p = f.nearest s n q
  rw [nearest_eq f s m p hm, nearest_eq f s n q hn]
  have z1 := size_pw m p hm
  have z2 := size_pw n q hn
  have l1 : p + (m.log2 : Int) < q + n.log2 + 1 := lt_of_pw_lt (by grind)
  have l2 : q + (n.log2 : Int) < p + m.log2 + 1 := lt_of_pw_lt (by grind)
  have hl : lastOf f m p = lastOf f n q := by unfold lastOf; omega
  have k1 := kept_mono f s s m n p q hm hn (by rw [h]; exact Rat.le_refl)
  have k2 := kept_mono f s s n m q p hn hm (by rw [h]; exact Rat.le_refl)
  rw [hl] at k1 k2
  have hp := pw_pos (lastOf f n q)
  have e1 : keptOf f s m p ≤ keptOf f s n q := le_nat_of _ _ (lastOf f n q) (by grind)
  have e2 : keptOf f s n q ≤ keptOf f s m p := le_nat_of _ _ (lastOf f n q) (by grind)
  have e3 : keptOf f s m p = keptOf f s n q := by omega
  unfold rungOf
  rw [hl, e3]

theorem write_ev (f : Format) (s t : Bool) (m n : Nat) (p q : Int) (h : val s m p = val t n q) : Ev f (f.write (.number s m p)) (f.write (.number t n q)) := by
  have hm0 := mag_nonneg m p
  have hn0 := mag_nonneg n q
  by_cases hm : m = 0
  · subst hm
    have hn : n = 0 := by
      rw [val_zero] at h
      apply mag_zero (p := q)
      unfold val at h
      cases t <;> simp at h <;> grind
    subst hn
    exact .inr ⟨write_zero f s p, write_zero f t q⟩
  · have hmp : 0 < (m : Rat) * pw p := by
      rcases Classical.em ((m : Rat) * pw p ≤ 0) with h0 | h0
      · exact absurd (mag_zero h0) hm
      · grind
    have hst : s = t := by
      unfold val at h
      cases s <;> cases t <;> simp at h <;> first | rfl | (exfalso; grind)
    subst hst
    left
    apply write_same f s m n p q hm
    unfold val at h
    cases s <;> simp at h <;> grind

/-! ### the operations -/
theorem sum_zero (f : Format) (s t : Bool) (p q : Int) (d : Datum) : EvO f ((Datum.sum (.number s 0 p) d).map f.write) ((Datum.sum (.number t 0 q) d).map f.write) := by
  cases d with
  | nan a b => simp [Datum.sum, EvO]
  | infinity a => simp [Datum.sum, EvO, Ev.refl]
  | number u n j =>
    obtain ⟨a, k, b, h1, h2⟩ := sum_val s u 0 n p j
    obtain ⟨a', k', b', h1', h2'⟩ := sum_val t u 0 n q j
    rw [h1, h1']
    show Ev f _ _
    apply write_ev
    rw [h2, h2', val_zero, val_zero]
theorem sum_comm (a b : Datum) : a.sum b = b.sum a := by
  cases a <;> cases b <;> simp only [Datum.sum]
  · rename_i s m i t n j
    congr 2
    · rw [Int.min_comm, Int.add_comm]
      split <;> simp [Bool.and_comm]
    · rw [Int.min_comm, Int.add_comm]
    · exact Int.min_comm _ _
  · rename_i s t
    by_cases h : s = t
    · subst h; rfl
    · rw [if_neg h, if_neg (fun e => h e.symm)]
theorem add_ev_left (f : Format) (x x' y : Nat) (h : Ev f x x') : EvO f (f.add x y) (f.add x' y) := by
  rcases h with rfl | ⟨⟨s, p, h1⟩, ⟨t, q, h2⟩⟩
  · exact EvO.refl f _
  · unfold Format.add; rw [h1, h2]; exact sum_zero f s t p q _
theorem add_comm' (f : Format) (x y : Nat) : f.add x y = f.add y x := by unfold Format.add; rw [sum_comm]
theorem add_ev (f : Format) (x x' y y' : Nat) (h : Ev f x x') (k : Ev f y y') : EvO f (f.add x y) (f.add x' y') :=
  (add_ev_left f x x' y h).trans (by rw [add_comm' f x' y, add_comm' f x' y']; exact add_ev_left f y y' x' k)
theorem sub_ev (f : Format) (x x' y y' : Nat) (h : Ev f x x') (k : Ev f y y') : EvO f (f.sub x y) (f.sub x' y') := by
  refine EvO.trans (b := f.sub x' y) ?_ ?_
  · rcases h with rfl | ⟨⟨s, p, h1⟩, ⟨t, q, h2⟩⟩
    · exact EvO.refl f _
    · unfold Format.sub; rw [h1, h2]; exact sum_zero f s t p q _
  · rcases k with rfl | ⟨⟨s, p, h1⟩, ⟨t, q, h2⟩⟩
    · exact EvO.refl f _
    · unfold Format.sub; rw [h1, h2]
      show EvO f ((Datum.sum _ (.number (!s) 0 p)).map f.write) ((Datum.sum _ (.number (!t) 0 q)).map f.write)
      rw [sum_comm, sum_comm (f.read x')]
      exact sum_zero f _ _ p q _
theorem product_comm (a b : Datum) : a.product b = b.product a := by
  cases a <;> cases b <;> simp only [Datum.product, Bool.xor_comm, Nat.mul_comm, Int.add_comm]
theorem mul_comm' (f : Format) (x y : Nat) : f.mul x y = f.mul y x := by unfold Format.mul; rw [product_comm]
theorem mul_ev_left (f : Format) (x x' y : Nat) (h : Ev f x x') : EvO f (f.mul x y) (f.mul x' y) := by
  rcases h with rfl | ⟨⟨s, p, h1⟩, ⟨t, q, h2⟩⟩
  · exact EvO.refl f _
  · unfold Format.mul; rw [h1, h2]
    cases f.read y with
    | nan a b => simp [Datum.product, EvO]
    | infinity a => simp [Datum.product, EvO]
    | number u n j =>
      simp only [Datum.product, Nat.zero_mul, Option.map_some]
      exact .inr ⟨write_zero f _ _, write_zero f _ _⟩
theorem mul_ev (f : Format) (x x' y y' : Nat) (h : Ev f x x') (k : Ev f y y') : EvO f (f.mul x y) (f.mul x' y') :=
  (mul_ev_left f x x' y h).trans (by rw [mul_comm' f x' y, mul_comm' f x' y']; exact mul_ev_left f y y' x' k)
theorem mul_zr {f : Format} {x y : Nat} (h : Zr f x) (k : IsNum f y) : ∃ r, f.mul x y = some r ∧ Zr f r := by
  obtain ⟨s, p, h⟩ := h
  obtain ⟨t, n, j, k⟩ := k
  refine ⟨_, by unfold Format.mul; rw [h, k]; simp only [Datum.product, Nat.zero_mul]; rfl, write_zero f _ _⟩
theorem add_zr {f : Format} {x y : Nat} (h : Zr f x) (k : Zr f y) : ∃ r, f.add x y = some r ∧ Zr f r := by
  obtain ⟨s, p, h⟩ := h
  obtain ⟨t, q, k⟩ := k
  obtain ⟨a, c, b, h1, h2⟩ := sum_val s t 0 0 p q
  rw [val_zero, val_zero] at h2
  have hc : c = 0 := by
    apply mag_zero (p := b)
    unfold val at h2
    have := mag_nonneg c b
    cases a <;> simp at h2 <;> grind
  subst hc
  exact ⟨_, by unfold Format.add; rw [h, k, h1]; rfl, write_zero f _ _⟩
theorem sub_zr {f : Format} {x y : Nat} (h : Zr f x) (k : Zr f y) : ∃ r, f.sub x y = some r ∧ Zr f r := by
  obtain ⟨s, p, h⟩ := h
  obtain ⟨t, q, k⟩ := k
  obtain ⟨a, c, b, h1, h2⟩ := sum_val s (!t) 0 0 p q
  rw [val_zero, val_zero] at h2
  have hc : c = 0 := by
    apply mag_zero (p := b)
    unfold val at h2
    have := mag_nonneg c b
    cases a <;> simp at h2 <;> grind
  subst hc
  exact ⟨_, by unfold Format.sub; rw [h, k]; show (Datum.sum _ (.number (!t) 0 q)).map f.write = _; rw [h1]; rfl, write_zero f _ _⟩

/-- what is read is written, and read, as it is -/
theorem read_back (f : Format) (hbi : f.binade ≤ f.infRung) {b : Nat} {s : Bool} {m : Nat} {p : Int} (h : f.read b = .number s m p) : f.read (f.write (.number s m p)) = .number s m p := by
  have hb := bin_pos f
  have hbb : f.binade = 2 ^ f.fractionBits := rfl
  by_cases hm : m = 0
  · subst hm
    have hp : p = f.leastPlace := by
      unfold Format.read at h
      simp only at h
      split at h
      · injection h with a b c; exact c.symm
      · split at h
        · injection h with a b c; omega
        · split at h <;> cases h
    subst hp
    show f.read (f.nearest s 0 f.leastPlace) = _
    have : f.nearest s 0 f.leastPlace = f.word s 0 := by unfold Format.nearest; simp
    rw [this, zero_read]
  · -- the rung
    obtain ⟨r, hr, hrd⟩ : ∃ r, r < f.infRung ∧ (if r < f.binade then Datum.number s r f.leastPlace else .number s (f.binade + r % f.binade) (f.leastPlace + (r / f.binade - 1 : Nat))) = .number s m p := by
      unfold Format.read at h
      simp only at h
      by_cases h1 : b % f.signWeight < f.binade
      · rw [if_pos h1] at h
        injection h with a1 a2 a3
        refine ⟨b % f.signWeight, ?_, by rw [if_pos h1, a2, a3]⟩
        omega
      · rw [if_neg h1] at h
        by_cases h2 : b % f.signWeight < f.infRung
        · rw [if_pos h2] at h
          injection h with a1 a2 a3
          exact ⟨b % f.signWeight, h2, by rw [if_neg h1, a2, a3]⟩
        · rw [if_neg h2] at h
          split at h <;> cases h
    have hw : f.write (.number s m p) = f.word s r := by
      show f.nearest s m p = _
      rw [nearest_eq f s m p hm]
      by_cases h1 : r < f.binade
      · rw [if_pos h1] at hrd
        injection hrd with a1 a2 a3
        subst a2; subst a3
        have hl : lastOf f r f.leastPlace = f.leastPlace := by
          have : r.log2 < f.fractionBits := (Nat.log2_lt hm).2 (by rw [← hbb]; exact h1)
          unfold lastOf; omega
        have hk : keptOf f s r f.leastPlace = r := by
          unfold keptOf; rw [hl]; simp [Toward.cut, Nat.mod_one]
        unfold rungOf
        rw [hl, hk, Int.sub_self, Int.toNat_zero, Nat.zero_mul, Nat.zero_add, Nat.min_eq_left (Nat.le_of_lt hr)]
      · rw [if_neg h1] at hrd
        injection hrd with a1 a2 a3
        have hlt := Nat.mod_lt r hb
        have hlog : m.log2 = f.fractionBits := by
          have h3 : m < 2 ^ (f.fractionBits + 1) := by rw [Nat.pow_succ, ← hbb]; omega
          have h4 : 2 ^ f.fractionBits ≤ m := by rw [← hbb]; omega
          have h5 := (Nat.log2_lt hm).2 h3
          have h6 := (Nat.le_log2 hm).2 h4
          omega
        have hl : lastOf f m p = p := by unfold lastOf; omega
        have hk : keptOf f s m p = m := by
          unfold keptOf; rw [hl]; simp [Toward.cut, Nat.mod_one]
        have hdiv := Nat.div_add_mod r f.binade
        have hq : 1 ≤ r / f.binade := Nat.div_pos (by omega) hb
        unfold rungOf
        rw [hl, hk]
        have e1 : (p - f.leastPlace).toNat = r / f.binade - 1 := by omega
        rw [e1]
        have e2 : (r / f.binade - 1) * f.binade + m = r := by
          rw [Nat.sub_mul, Nat.one_mul, ← a2]
          have e3 : r / f.binade * f.binade = f.binade * (r / f.binade) := Nat.mul_comm _ _
          have e4 : f.binade ≤ f.binade * (r / f.binade) := Nat.le_mul_of_pos_right _ hq
          omega
        rw [e2, Nat.min_eq_left (Nat.le_of_lt hr)]
    rw [hw, read_word f s hr]
    exact hrd
end Flo
end Go.Proofs.Ytlhhcchncobmhaa

/- The walks of the tests of modes and bodies whose parts are finite, the program's and the law's: both say what 'modeB' says.
   Conditions: those that each statement names. -/
namespace Go.Proofs.Ytlhhcchncobmhaa
set_option linter.unusedSimpArgs false
set_option linter.unusedVariables false
open Go Go.RowKit

set_option maxHeartbeats 1600000 in
theorem isModeOf_fin (pr pi gr gi : Nat) (w : World) (S1 : Sm pr) (S2 : Sm pi) (S3 : Sm gr) (S4 : Sm gi) :
    Calls Try.prog 113 #[.complex .f64 (wid pr) (wid pi), .complex .f64 (wid gr) (wid gi)] w fun e w' => e = .returned (.bool (modeB pr pi gr gi labs)) ∧ w = w' := by
  have hB : modeB pr pi gr gi labs = (leB (sqr (wid pr) (wid pi)) 4607182418800017408 && (leB (labs (wid gr)) 4652218415073722368 && leB (labs (wid gi)) 4652218415073722368)) := by
    unfold modeB
    rw [(fin_iff' .f32 pr).2 S1, (fin_iff' .f32 pi).2 S2, (fin_iff' .f32 gr).2 S3, (fin_iff' .f32 gi).2 S4]
    rfl
  rw [hB]
  clear hB
  obtain ⟨a, b, m1, m2, m3, -, -⟩ := sqr_num S1 S2
  have f1 : ∀ w, fres w .mul .f64 (wid pr) (wid pr) = a := fun w => by unfold fres; rw [m1]
  have f2 : ∀ w, fres w .mul .f64 (wid pi) (wid pi) = b := fun w => by unfold fres; rw [m2]
  have f3 : ∀ w, fres w .add .f64 a b = sqr (wid pr) (wid pi) := fun w => by unfold fres; rw [m3]
  have d1 : fdr .mul .f64 (wid pr) (wid pr) = 0 := by unfold fdr; rw [m1]; rfl
  have d2 : fdr .mul .f64 (wid pi) (wid pi) = 0 := by unfold fdr; rw [m2]; rfl
  have d3 : fdr .add .f64 a b = 0 := by unfold fdr; rw [m3]; rfl
  rw [← leB_abs (wid_lt _) (wid_num S3).1 num_1024, ← leB_abs (wid_lt _) (wid_num S4).1 num_1024]
  have W1 := fin_wid S1
  have W2 := fin_wid S2
  have W3 := fin_wid S3
  have W4 := fin_wid S4
  clear m1 m2 m3 S1 S2 S3 S4
  cases h5 : leB (sqr (wid pr) (wid pi)) 4607182418800017408 <;> cases h6 : leB (wid gr % signBit) 4652218415073722368 <;> cases h7 : leB (wid gi % signBit) 4652218415073722368
  all_goals
    unfold leB at h5 h6 h7
    go_enter Try.func113, Try.ntmps113
    go_wp2_with (first
      | (go_at_call 98; refine (implFinite_any _ _ _ (wid_lt _) (wid_lt _)).mono ?_; rintro e w' ⟨rfl, rfl⟩)
      | (go_at_call 101; refine (abs_any _ _ (wid_lt _)).mono ?_; rintro e w' ⟨rfl, rfl⟩))
    all_goals (go_ret; exact ⟨by simp [h5, h6, h7], rfl⟩)

theorem implIsMode_fin (pr pi gr gi : Nat) (w : World) (h1 : Sm pr) (h2 : Sm pi) (h3 : Sm gr) (h4 : Sm gi) :
    Calls Try.prog 110 #[.agg #[.complex .f32 pr pi, .complex .f32 gr gi]] w (TestP (modeB pr pi gr gi labs) w) := by
  have S1 := Lib.hid h1
  have S2 := Lib.hid h2
  have S3 := Lib.hid h3
  have S4 := Lib.hid h4
  clear h1 h2 h3 h4
  go_enter Try.func110, Try.ntmps110
  go_wp2_with fail
  go_quiet (first
    | (go_at_call 79; with_reducible exact quiet_eq (implWiden_fin _ _ _ S1.out S2.out))
    | (go_at_call 79; with_reducible exact quiet_eq (implWiden_fin _ _ _ S3.out S4.out))
    | (go_at_call 113; exact quiet_eq (isModeOf_fin _ _ _ _ _ S1.out S2.out S3.out S4.out)))
  go_wp2
  go_ret
  exact ⟨rfl, ((Nw.refl _).alloc _).draw _⟩

def M4.okB (m : M4) : Bool := modeB m.pr m.pi m.gr m.gi labs
def M4.Fin (m : M4) : Prop := Sm m.pr ∧ Sm m.pi ∧ Sm m.gr ∧ Sm m.gi
theorem M4.okB_iff (m : M4) : m.okB = true ↔ m.ok := Iff.rfl
def bodyB (ms : List M4) : Bool := decide (ms.length ≤ 16) && ms.all M4.okB
theorem bodyB_iff (ms : List M4) : bodyB ms = true ↔ ms.length ≤ 16 ∧ ∀ m ∈ ms, m.ok := by
  unfold bodyB
  rw [Bool.and_eq_true, decide_eq_true_iff, List.all_eq_true]
  exact Iff.rfl
theorem bodyB_bad {ms : List M4} {m : M4} (hm : m ∈ ms) (h : m.okB = false) : bodyB ms = false := by
  cases hb : bodyB ms
  · rfl
  · have := ((bodyB_iff ms).1 hb).2 m hm
    rw [← M4.okB_iff, h] at this
    cases this
theorem bodyB_all {ms : List M4} (hl : ms.length ≤ 16) (h : ∀ k : Nat, k < ms.length → ∀ m, ms[k]? = some m → m.okB = true) : bodyB ms = true := by
  rw [bodyB_iff]
  refine ⟨hl, fun m hm => ?_⟩
  obtain ⟨k, hk⟩ := List.getElem?_of_mem hm
  exact h k (List.getElem?_eq_some_iff.1 hk).1 m hk
theorem bodyB_long {ms : List M4} (h : 16 < ms.length) : bodyB ms = false := by
  unfold bodyB
  rw [decide_eq_false (by omega)]; rfl

def TestI (ms : List M4) (n : Nat) (w : World) (i : Value) (wr : World) : Prop := ∃ k : Nat, k ≤ n ∧ i = .int .i64 (k : Int) ∧ (∀ j : Nat, j < k → ∀ m, ms[j]? = some m → m.okB = true) ∧ Nw w wr

theorem implIsBody_fin (ms : List M4) (hms : ∀ m ∈ ms, m.Fin) (n bm : Nat) (v : Value) (hn : ms.length = n) (hn64 : n ≤ 64) (w : World)
    (hm : w.ownsRow bm 61 2 v n (cellsM ms)) :
    Calls Try.prog 83 #[.agg #[v]] w (TestP (bodyB ms) w) := by
  obtain ⟨va, vc, rfl⟩ := own_shape' hm
  have Hm := Lib.hid hm
  have Hms := Lib.hid hms
  have Hn := Lib.hid hn
  have Hn0 := Lib.hid ((Nw.refl w).alloc (.cells #[.slice va n vc] 69 (0, 0)))
  clear hm hms hn
  by_cases hn16 : n ≤ 16
  · go_enter Try.func83, Try.ntmps83
    go_wp2_with fail
    go_loopw [12] (fun i wr => TestI ms n w i wr) (fun i _ => n - (intOf i).toNat)
    case atStart => exact ⟨0, by omega, rfl, fun j hj => absurd hj (by omega), Hn0.out⟩
    case round =>
      obtain ⟨k, hk, rfl, hal, hnw⟩ := hrel
      have Hnw := Lib.hid hnw
      have Hal := Lib.hid hal
      clear hnw hal
      by_cases hlt : k < n
      · obtain ⟨m, hmk⟩ : ∃ m, ms[k]? = some m := ⟨ms[k]'(by rw [Hn.out]; exact hlt), List.getElem?_eq_getElem _⟩
        have Hmr := Lib.hid (own_nw Hm.out Hnw.out)
        obtain ⟨g, cap, hv, hcap, hmax, hgs, e1, e2⟩ := own_mode Hmr.out hmk Hn.out.symm
        cases hv
        have Hmo := Lib.hid (Hms.out m (List.mem_of_getElem? hmk))
        unfold maxLen at hmax
        have Hnw4 := Lib.hid (Hnw.out.alloc (.cells #[.complex .f32 m.pr m.pi, .complex .f32 m.gr m.gi] 61 (0, 0)))
        have Hmk := Lib.hid hmk
        clear hmk
        go_wp2_with fail
        refine (implIsMode_fin _ _ _ _ _ Hmo.out.1 Hmo.out.2.1 Hmo.out.2.2.1 Hmo.out.2.2.2).mono ?_
        rintro e w5 ⟨rfl, n5⟩
        have Hnw5 := Lib.hid (Hnw4.out.trans n5)
        clear n5 e1 e2
        cases hb : modeB m.pr m.pi m.gr m.gi labs with
        | false =>
          go_wp2_with fail
          go_ret
          exact ⟨by rw [bodyB_bad (List.mem_of_getElem? Hmk.out) hb]; first | done | rfl, Hnw5.out⟩
        | true =>
          go_wp2_with fail
          go_roundw
          case rel =>
            refine ⟨k + 1, by omega, by rw [show ((k + 1 : Nat) : Int) = (k : Int) + 1 from by omega], fun j hj m' hm' => ?_, Hnw5.out⟩
            by_cases hjk : j < k
            · exact Hal.out j hjk m' hm'
            · obtain rfl : j = k := by omega
              rw [Hmk.out] at hm'
              cases hm'
              exact hb
          case measure => simp only [intOf]; omega
      · go_wp2_with fail
        go_ret
        exact ⟨by rw [bodyB_all (by rw [Hn.out]; exact hn16) (fun j hj => Hal.out j (by have := Hn.out; omega))]; first | done | rfl, Hnw.out⟩
  · go_enter Try.func83, Try.ntmps83
    go_wp2_with fail
    go_ret
    exact ⟨by rw [bodyB_long (by rw [Hn.out]; omega)]; first | done | rfl, Hn0.out⟩

end Go.Proofs.Ytlhhcchncobmhaa

/- The walks of slices.Clone over a body's modes.
   Conditions: those that each statement names. -/
namespace Go.Proofs.Ytlhhcchncobmhaa
set_option linter.unusedSimpArgs false
set_option linter.unusedVariables false
open Go Go.RowKit

theorem Nw.grown {a w w1 : World} {row : Option Nat} (h : Nw a w) (hg : w.grownBy w1 row) (hr : ∀ q, row = some q → a.heap.size ≤ q) : Nw a w1 :=
  ⟨hg.os.trans h.os, hg.tape.trans h.tape, hg.output.trans h.output, Nat.le_trans h.size hg.size, fun i hi hne => (hg.block i (Nat.lt_of_lt_of_le hi h.size) (fun e => by have := hr i e.symm; omega)).trans (h.block i hi hne)⟩

def RowP (ms : List M4) (w : World) (e : Ending) (w' : World) : Prop :=
  ∃ v : Value, e = .returned v ∧ w'.ownsRow w.heap.size 61 2 v ms.length (cellsM ms) ∧ Nw w w'

set_option maxRecDepth 100000 in
theorem clone_modes (ms : List M4) (n bm : Nat) (v : Value) (hn : ms.length = n) (hn64 : n ≤ 64) (w : World)
    (hm : w.ownsRow bm 61 2 v n (cellsM ms)) :
    Calls Try.prog 93 #[v] w (RowP ms w) := by
  obtain ⟨va, vc, rfl⟩ := own_shape' hm
  have Hm := Lib.hid hm
  have Hn := Lib.hid hn
  clear hm hn
  go_enter Try.func93, Try.ntmps93
  have q0 : ∀ (w : World) (a : Option Addr) (n c n' c' : Nat), (binOp .eql 23 (.slice a n c) (.slice none n' c')).run Try.prog w = .ok (.bool a.isNone) w := fun w a n c n' c' => Lib.run_eql_slice_nil w _ _ a n c n' c' Try.underlying23
  obtain ⟨i0, hi, hz0, hz1, hz2⟩ := info_parts info_mode
  rcases Hm.out.2 with ⟨h1, h2⟩ | ⟨g, cap, cur, h1, hb, hg, hc, hmx, hs, ht⟩
  · cases h1
    have hms : ms = [] := List.eq_nil_of_length_eq_zero (by rw [Hn.out])
    subst hms
    go_wp2_with fail
    go_ret
    exact ⟨_, rfl, World.ownsRow_nil _ _ _ _, Nw.refl _⟩
  · cases h1
    have Hbel := Lib.hid ((Nw.refl w).alloc (.cells #[] 61 (0, 0)))
    clear hb hg hc hmx hs ht
    go_wp2_with (at_builtin; refine wpList_append_own _ rfl _ _ 23 rfl w.heap.size 61 i0 (.agg #[.complex .f32 0 0, .complex .f32 0 0]) 2 16 Try.underlying23 hi hz0 hz1 hz2 rfl (by decide) _ _ _ rfl (World.ownsRow_made w #[] 0 (Nat.le_refl _) (Nat.zero_le _) rfl) ⟨g, 0, none⟩ n vc (cellsM ms) rfl ?qc1 ?qc2 ?qc3 ?qc4 ?qc5 ?qc6 ?_)
    case qc1 => rw [cellsM_len, Hn.out]
    case qc2 =>
      intro j u hj
      have hj' : j < n * 2 := by
        have := (List.getElem?_eq_some_iff.1 hj).1
        rw [cellsM_len, Hn.out] at this
        exact this
      have c1 := Hm.out.cellAt j hj'
      rw [hj] at c1
      rw [show (⟨g, 0, none⟩ : Addr).add j = ⟨g, j, none⟩ from by simp [Addr.add]; first | done | (intro h; omega)]
      exact Lib.cell?_alloc_some _ c1
    case qc3 =>
      intro u hu
      obtain ⟨m, _, hu⟩ := List.mem_flatMap.1 hu
      simp [M4.cells] at hu
      rcases hu with rfl | rfl <;> rfl
    case qc4 => unfold maxLen; omega
    case qc5 => omega
    case qc6 => simp
    · intro v' w1 hown hgrow hnil
      have Hown := Lib.hid hown
      have Hgr := Lib.hid (Hbel.out.grown hgrow (fun q hq => by simp [Value.ownBlock] at hq; omega))
      clear hown hgrow hnil
      go_wp2
      go_ret
      exact ⟨v', rfl, by have h := Hown.out; simpa [Hn.out] using h, Hgr.out⟩

end Go.Proofs.Ytlhhcchncobmhaa

/- The walk of DampBody over a valid body and a factor from 0 to 1.
   Conditions: those that each statement names. -/
namespace Go.Proofs.Ytlhhcchncobmhaa
set_option linter.unusedSimpArgs false
set_option linter.unusedVariables false
open Go Go.RowKit

def dampM (t : Nat) (m : M4) : M4 := ⟨opB .mul .f32 m.pr t, opB .mul .f32 m.pi t, m.gr, m.gi⟩

def dampL (ms : List M4) (t k : Nat) : List M4 := (ms.take k).map (dampM t) ++ ms.drop k
theorem dampL_len (ms : List M4) (t k : Nat) : (dampL ms t k).length = ms.length := by simp [dampL]; omega
theorem dampL_zero (ms : List M4) (t : Nat) : dampL ms t 0 = ms := by simp [dampL]
theorem dampL_full (ms : List M4) (t n : Nat) (h : ms.length = n) : dampL ms t n = ms.map (dampM t) := by
  simp [dampL, List.take_of_length_le (Nat.le_of_eq h), List.drop_of_length_le (Nat.le_of_eq h)]
theorem dampL_at (ms : List M4) (t k : Nat) (m : M4) (h : ms[k]? = some m) : (dampL ms t k)[k]? = some m := by
  obtain ⟨hk, he⟩ := List.getElem?_eq_some_iff.1 h
  unfold dampL
  rw [List.getElem?_append_right (by simp; omega)]
  simp only [List.length_map, List.length_take, Nat.min_eq_left (Nat.le_of_lt hk), Nat.sub_self, List.getElem?_drop, Nat.add_zero, h]
theorem cellsM_set (l : List M4) (k : Nat) (m m' : M4) (h : l[k]? = some m) (hg : m'.gr = m.gr ∧ m'.gi = m.gi) :
    (cellsM l).set (k * 2) (.complex .f32 m'.pr m'.pi) = cellsM (l.set k m') := by
  induction l generalizing k with
  | nil => simp at h
  | cons x l ih =>
    cases k with
    | zero =>
      simp at h
      subst h
      simp [cellsM, M4.cells, hg.1, hg.2]
    | succ k =>
      have hk := ih k (by simpa using h)
      simp only [cellsM, List.flatMap_cons, List.set_cons_succ] at *
      rw [show (k + 1) * 2 = k * 2 + 2 from by omega]
      simp only [M4.cells, List.cons_append, List.nil_append, List.set_cons_succ]
      rw [hk]
theorem dampL_set (ms : List M4) (t k : Nat) (m : M4) (h : ms[k]? = some m) : (dampL ms t k).set k (dampM t m) = dampL ms t (k + 1) := by
  obtain ⟨hk, he⟩ := List.getElem?_eq_some_iff.1 h
  unfold dampL
  rw [List.take_succ_eq_append_getElem hk, he, List.drop_eq_getElem_cons hk, he, List.set_append_right _ _ (by simp; omega)]
  simp [Nat.min_eq_left (Nat.le_of_lt hk)]

def DampP (n : Nat) (ms : List M4) (w : World) (e : Ending) (w' : World) : Prop :=
  ∃ v : Value, e = .returned (.tuple #[.agg #[v], .bool true]) ∧ w'.ownsRow w.heap.size 61 2 v n (cellsM ms) ∧ Nw w w'
def DampI (ms : List M4) (t n base D E : Nat) (v : Value) (w : World) (i : Value) (wr : World) : Prop :=
  ∃ k : Nat, k ≤ n ∧ i = .int .i64 (k : Int) ∧ wr.ownsRow base 61 2 v n (cellsM (dampL ms t k)) ∧ Has1 wr D (.slice none 0 0) ∧ Has1 wr E v ∧ Nw w wr

end Go.Proofs.Ytlhhcchncobmhaa

/- Rows of samples that are filled from their beginning.
   Conditions: those that each statement names. -/
namespace Go.Proofs.Ytlhhcchncobmhaa
set_option linter.unusedSimpArgs false
set_option linter.unusedVariables false
open Go Go.RowKit

/-- the first k places of n are filled -/
def fillL (f : Nat → Nat) (n k : Nat) : List Nat := (List.range k).map f ++ List.replicate (n - k) 0
theorem fillL_zero (f : Nat → Nat) (n : Nat) : fillL f n 0 = List.replicate n 0 := by simp [fillL]
theorem fillL_full (f : Nat → Nat) (n : Nat) : fillL f n n = (List.range n).map f := by simp [fillL]
theorem fillL_len (f : Nat → Nat) (n k : Nat) (h : k ≤ n) : (fillL f n k).length = n := by simp [fillL]; omega
theorem fillL_set (f : Nat → Nat) (n k : Nat) (h : k < n) : (cellsS (fillL f n k)).set k (.float .f32 (f k)) = cellsS (fillL f n (k + 1)) := by
  unfold fillL
  rw [show n - k = (n - (k + 1)) + 1 from by omega, List.replicate_succ, List.range_succ]
  simp only [cellsS, List.map_append, List.map_cons, List.map_nil, List.append_assoc, List.singleton_append]
  rw [List.set_append_right _ _ (by simp)]
  simp
theorem fillL_cell (f : Nat → Nat) (n k : Nat) (h : k < n) : (cellsS (fillL f n k))[k]? = some (.float .f32 0) := by
  unfold fillL cellsS
  rw [List.getElem?_map, List.getElem?_append_right (by simp)]
  simp [List.getElem?_replicate]
  omega

theorem ringBody_ok' (ms : List M4) (hms : ∀ m ∈ ms, m.ok) (xs : List Nat) (n q p bm bi : Nat) (v iv : Value) (hq : ms.length = q) (hq16 : q ≤ 16) (hp : xs.length = p) (hxl : p ≤ 1048576) (hn : n ≤ 2000) (w : World)
    (hm : w.ownsRow bm 61 2 v q (cellsM ms)) (hi : w.ownsRow bi 31 1 iv p (cellsS xs)) (hok : RingOk ms (inputOf xs) n) :
    Calls Try.prog 53 #[.agg #[v], iv, .int .i64 (n : Int)] w (RingP w.heap.size (ringS ms (inputOf xs) n) w) := by
  subst hp
  exact ringBody_ok ms hms xs n q bm bi v iv hq hq16 hxl hn w hm hi hok

theorem ringBody_some' (ms : List M4) (hms : ∀ m ∈ ms, m.ok) (xs : List Nat) (n q p bm bi : Nat) (v iv : Value) (hq : ms.length = q) (hq16 : q ≤ 16) (hp : xs.length = p) (hxl : p ≤ 1048576) (hn : n ≤ 2000) (w : World)
    (hm : w.ownsRow bm 61 2 v q (cellsM ms)) (hi : w.ownsRow bi 31 1 iv p (cellsS xs)) (hok : RingOk ms (inputOf xs) n) :
    Calls Try.prog 53 #[.agg #[v], iv, .int .i64 (n : Int)] w (RingP2 w.heap.size (ringS ms (inputOf xs) n) n w) := by
  subst hp
  exact ringBody_some ms hms xs n q bm bi v iv hq hq16 hxl hn w hm hi hok
end Go.Proofs.Ytlhhcchncobmhaa

/- Plain facts: a mode whose pole has no greater parts than a valid mode's, with the same gain, is valid: damped and tuned modes. No program stands in it.
   Conditions: those that each statement names. -/
namespace Go.Proofs.Ytlhhcchncobmhaa
set_option linter.unusedSimpArgs false
set_option linter.unusedVariables false
open Go

theorem M4.ok.pole4 {m : M4} (h : m.ok) : ra (S m.pr) ≤ 4 ∧ ra (S m.pi) ≤ 4 := by
  obtain ⟨p1, p2⟩ := h.pole
  have := ra_le p1
  have := ra_le p2
  constructor <;> grind

theorem ok_less (m m' : M4) (h : m.ok) (h1 : Sm m'.pr) (h2 : Sm m'.pi) (l1 : ra (S m'.pr) ≤ ra (S m.pr)) (l2 : ra (S m'.pi) ≤ ra (S m.pi)) (hg : m'.gr = m.gr ∧ m'.gi = m.gi) : m'.ok := by
  obtain ⟨s1, s2, s3, s4⟩ := h.nums
  obtain ⟨b1, b2⟩ := h.pole4
  obtain ⟨f1, f2, f3, f4, f5, f6, f7⟩ := Valid.parts h
  have hm := sqr_mono m'.pr m'.pi m.pr m.pi h1 h2 s1 s2 l1 l2 b1 b2
  obtain ⟨_, _, -, -, -, k1, k2⟩ := sqr_num s1 s2
  obtain ⟨_, _, -, -, -, k3, -⟩ := sqr_num h1 h2
  have f5' := (leB_iff k1 num_one.1).1 f5
  rw [num_one.2] at f5'
  have sq : ∀ q : Rat, 0 ≤ q * q := square_nonneg
  have q1 := sq (S m.pr)
  have q2 := sq (S m.pi)
  have u1 := Flo.u_le
  have u0 := Flo.u_pos
  have eu : Flo.et ≤ Flo.u := Flo.pw_le (by omega)
  have e0 := Flo.et_pos
  have g := Rat.mul_le_mul_of_nonneg_left (show 4 * Flo.u ≤ 1 by grind) (show 0 ≤ S m.pr * S m.pr + S m.pi * S m.pi by grind)
  have hneg : -1 ≤ Flo.W (sqr (wid m.pr) (wid m.pi)) := by
    have := k2.1
    grind
  have ha : ra (Flo.W (sqr (wid m.pr) (wid m.pi))) ≤ 1 := ra_le ⟨hneg, f5'⟩
  have hw : Flo.W (sqr (wid m'.pr) (wid m'.pi)) ≤ 1 := by
    have := ra_ab (Flo.W (sqr (wid m'.pr) (wid m'.pi)))
    have := this.2
    grind
  have f5'' : leB (sqr (wid m'.pr) (wid m'.pi)) 4607182418800017408 = true := (leB_iff k3 num_one.1).2 (by rw [num_one.2]; exact hw)
  show modeB m'.pr m'.pi m'.gr m'.gi labs = true
  unfold modeB
  rw [hg.1, hg.2, (fin_iff' .f32 _).2 h1, (fin_iff' .f32 _).2 h2, f3, f4, f5'', f6, f7]
  rfl

theorem dampM_ok (m : M4) (t : Nat) (h : m.ok) (ht : Sm t) (h0 : 0 ≤ S t) (h1 : S t ≤ 1) : (dampM t m).ok := by
  obtain ⟨s1, s2, s3, s4⟩ := h.nums
  obtain ⟨b1, b2⟩ := h.pole4
  obtain ⟨-, a1, a2⟩ := damp_part m.pr t s1 ht h0 h1 b1
  obtain ⟨-, c1, c2⟩ := damp_part m.pi t s2 ht h0 h1 b2
  exact ok_less m (dampM t m) h a1 c1 a2 c2 ⟨rfl, rfl⟩

def tuneM (m : M4) : M4 := ⟨mulSre m.pr m.pi 1065353216 0, mulSim m.pr m.pi 1065353216 0, m.gr, m.gi⟩
theorem tuneM_ok (m : M4) (h : m.ok) : (tuneM m).ok ∧ S (tuneM m).pr = S m.pr ∧ S (tuneM m).pi = S m.pi := by
  obtain ⟨s1, s2, s3, s4⟩ := h.nums
  obtain ⟨b1, b2⟩ := h.pole4
  obtain ⟨a1, a2, a3, a4⟩ := mulS_one m.pr m.pi s1 s2 b1 b2
  exact ⟨ok_less m (tuneM m) h a1 a2 (by show ra (S (mulSre m.pr m.pi 1065353216 0)) ≤ _; rw [a3]; exact Rat.le_refl) (by show ra (S (mulSim m.pr m.pi 1065353216 0)) ≤ _; rw [a4]; exact Rat.le_refl) ⟨rfl, rfl⟩, a3, a4⟩
end Go.Proofs.Ytlhhcchncobmhaa

/- The walk of TouchBody over a valid body, where nothing overflows.
   Conditions: those that each statement names. -/
namespace Go.Proofs.Ytlhhcchncobmhaa
set_option linter.unusedSimpArgs false
set_option linter.unusedVariables false
open Go Go.RowKit

/-- the states after i steps, of which those from 'from' on are the damped body's -/
def tAt (ms ds : List M4) (f : Nat) (x : Nat → Nat) : Nat → List (Nat × Nat)
  | 0 => ms.map fun _ => (0, 0)
  | i + 1 => stepAll (if f ≤ i then ds else ms) (tAt ms ds f x i) (x i)
theorem tAt_len (ms ds : List M4) (f : Nat) (x : Nat → Nat) (hl : ds.length = ms.length) : ∀ i, (tAt ms ds f x i).length = ms.length
  | 0 => by simp [tAt]
  | i + 1 => by
    unfold tAt
    split <;> simp [stepAll, tAt_len ms ds f x hl i, hl]
def TouchOk (ms ds : List M4) (f : Nat) (x : Nat → Nat) (n : Nat) : Prop :=
  ∀ i, i < n → (∀ (k : Nat) m s, (if f ≤ i then ds else ms)[k]? = some m → (tAt ms ds f x i)[k]? = some s → StepOk m s (x i)) ∧ SumOk (tAt ms ds f x (i + 1))
def touchS (ms ds : List M4) (f : Nat) (x : Nat → Nat) (n : Nat) : List Nat := (List.range n).map fun i => outS (tAt ms ds f x (i + 1))

def TouchI (B bb bd gs gu n q : Nat) (ms ds : List M4) (f : Nat) (x : Nat → Nat) (bv dv : Value) (w : World) (cur i : Value) (wr : World) : Prop :=
  ∃ k : Nat, k ≤ n ∧ i = .int .i64 (k : Int) ∧ cur = (if k ≤ f then bv else dv) ∧ wr.ownsRow B 59 1 (.slice (some ⟨gs, 0, none⟩) q q) q (cellsC (tAt ms ds f x k)) ∧
    wr.ownsRow B 31 1 (.slice (some ⟨gu, 0, none⟩) n n) n (cellsS (fillL (fun i => outS (tAt ms ds f x (i + 1))) n k)) ∧ Has1 wr bb bv ∧ Has1 wr bd dv ∧ Nw w wr

theorem touch_len (ms ds : List M4) (f : Nat) (x : Nat → Nat) (n : Nat) : (touchS ms ds f x n).length = n := by simp [touchS]

end Go.Proofs.Ytlhhcchncobmhaa

/- The walk of DriftOf, where nothing overflows: the drift is at most what each difference is.
   Conditions: those that each statement names. -/
namespace Go.Proofs.Ytlhhcchncobmhaa
set_option linter.unusedSimpArgs false
set_option linter.unusedVariables false
open Go Go.RowKit

/-- each difference between the two ringings is at most Bd -/
def DiffOk (ms : List M4) (x : Nat → Nat) (n : Nat) (Bd : Rat) : Prop :=
  ∀ i, i < n → Sm (outS (stAt ms x (i + 1))) ∧ ∃ r, floatBits .sub .f64 (outD (stDAt ms x (i + 1))) (wid (outS (stAt ms x (i + 1)))) = some r ∧ Flo.Nm r ∧ Flo.Ab (Flo.W r) Bd

def DriftP (Bd : Rat) (w : World) (e : Ending) (w' : World) : Prop :=
  ∃ g : Nat, e = .returned (.tuple #[.float .f64 g, .bool true]) ∧ Flo.Nm g ∧ Flo.W g ≤ Bd ∧ Nw w w'
def DriftI (Bd : Rat) (n : Nat) (w : World) (y i : Value) (wr : World) : Prop :=
  ∃ k g : Nat, k ≤ n ∧ i = .int .i64 (k : Int) ∧ y = .float .f64 g ∧ Flo.Nm g ∧ Flo.W g ≤ Bd ∧ Nw w wr

theorem own_f64 {w : World} {base n k : Nat} {v : Value} {xs : List Nat} (h : w.ownsRow base 49 1 v n (cellsF xs)) {x : Nat} (hk : xs[k]? = some x) (hn : n = xs.length) :
    ∃ g cap, v = .slice (some ⟨g, 0, none⟩) n cap ∧ n ≤ cap ∧ cap ≤ maxLen ∧ g < w.heap.size ∧ w.cell? ⟨g, k, none⟩ = some (.float .f64 x) := by
  have hkl := (List.getElem?_eq_some_iff.1 hk).1
  rcases h.2 with ⟨_, h0⟩ | ⟨g, cap, cur, rfl, hb, hg, hc, hm, hs, ht⟩
  · omega
  · have c1 := h.cellAt k (by omega)
    rw [show (cellsF xs)[k]? = some (.float .f64 x) from by simp [cellsF, hk]] at c1
    exact ⟨g, cap, rfl, hc, hm, (h.lt g rfl).2, c1⟩

set_option maxHeartbeats 3200000 in
theorem driftOf_ok (ms : List M4) (hms : ∀ m ∈ ms, m.ok) (xs : List Nat) (n q bm bi : Nat) (v iv : Value) (hq : ms.length = q) (hq16 : q ≤ 16) (hxl : xs.length ≤ 1048576) (hn : n ≤ 2000) (Bd : Rat) (hBd : 0 ≤ Bd) (w : World)
    (hm : w.ownsRow bm 61 2 v q (cellsM ms)) (hi : w.ownsRow bi 31 1 iv xs.length (cellsS xs)) (hok : RingOk ms (inputOf xs) n) (hokd : RingDOk ms (inputOf xs) n) (hdiff : DiffOk ms (inputOf xs) n Bd) :
    Calls Try.prog 77 #[.agg #[v], iv, .int .i64 (n : Int)] w (DriftP Bd w) := by
  obtain ⟨va, vc, rfl⟩ := own_shape' hm
  obtain ⟨ia, ic, rfl⟩ := own_shape' hi
  have Hm := Lib.hid hm
  have Hi := Lib.hid hi
  have Hok := Lib.hid hok
  have Hokd := Lib.hid hokd
  have Hdiff := Lib.hid hdiff
  have Hq := Lib.hid hq
  have Hbox := Lib.hid (Has1.new w 69 (.slice va q vc))
  have Hn0 := Lib.hid ((Nw.refl w).alloc (.cells #[.slice va q vc] 69 (0, 0)))
  clear hm hi hok hokd hdiff hq
  go_enter Try.func77, Try.ntmps77
  go_wp2_with fail
  refine (ringBody_ok ms hms xs n q bm bi _ _ Hq.out hq16 hxl hn _ (own_nw Hm.out Hn0.out) (own_nw Hi.out Hn0.out) Hok.out).mono ?_
  rintro e w1 ⟨s1, rfl, own1, n1⟩
  obtain ⟨sa, sc, rfl⟩ := own_shape' own1
  have Hn1 := Lib.hid (Hn0.out.trans n1)
  have Hb1 := Lib.hid (Hbox.out.nw n1)
  have hl1 : (ringS ms (inputOf xs) n).length = n := by simp [ringS]
  rw [hl1] at own1 ⊢
  have Own1 := Lib.hid own1
  clear own1 n1 hl1
  obtain ⟨b0, b1, b2⟩ := Hb1.out
  go_wp2_with fail
  refine (ringDouble_ok ms hms xs n q bm bi _ _ Hq.out hq16 hxl hn _ (own_nw Hm.out Hn1.out) (own_nw Hi.out Hn1.out) Hokd.out).mono ?_
  rintro e w2 ⟨s2, rfl, own2, n2⟩
  obtain ⟨da, dc, rfl⟩ := own_shape' own2
  have Hn2 := Lib.hid (Hn1.out.trans n2)
  have Own2 := Lib.hid (own_nw Own1.out n2)
  have hl2 : (ringD ms (inputOf xs) n).length = n := by simp [ringD]
  rw [hl2] at own2 ⊢
  have OwnD := Lib.hid own2
  clear own2 n2 hl2 b0 b1 b2
  go_wp2_with fail
  go_loopw [11, 34] (fun y i wr => DriftI Bd n w2 y i wr) (fun _ i _ => n - (intOf i).toNat)
  case atStart => exact ⟨0, 0, by omega, rfl, rfl, zero_num.1, by rw [zero_num.2]; exact hBd, Nw.refl _⟩
  case round =>
    obtain ⟨k, g, hk, rfl, rfl, hg, hgb, hnw⟩ := hrel
    have Hg := Lib.hid hg
    have Hgb := Lib.hid hgb
    have Hnw := Lib.hid hnw
    clear hg hgb hnw
    by_cases hlt : k < n
    · obtain ⟨sm, r, hr, nr, hb⟩ := Hdiff.out k hlt
      have hsk : (ringS ms (inputOf xs) n)[k]? = some (outS (stAt ms (inputOf xs) (k + 1))) := by simp [ringS, hlt]
      have hdk : (ringD ms (inputOf xs) n)[k]? = some (outD (stDAt ms (inputOf xs) (k + 1))) := by simp [ringD, hlt]
      obtain ⟨g1, cap1, hv1, hcap1, hmax1, -, e1⟩ := own_sample (own_nw Own2.out Hnw.out) hsk (by simp [ringS])
      obtain ⟨g2, cap2, hv2, hcap2, hmax2, -, e2⟩ := own_f64 (own_nw OwnD.out Hnw.out) hdk (by simp [ringD])
      cases hv1
      cases hv2
      have a1 := fcv_up sm
      have a2 := fcd_up sm
      obtain ⟨hc, hb3⟩ := Calm.of hr
      have r64 : r < 2 ^ 64 := by have := floatBits_wf hr; simpa [Lit.wf] using this
      have hrun : ∀ w, (binOp .sub 49 (.float .f64 (outD (stDAt ms (inputOf xs) (k + 1)))) (.float .f64 (wid (outS (stAt ms (inputOf xs) (k + 1)))))).run Try.prog w = .ok (.float .f64 r) w := fun w => by
        rw [run_fl_sub, hc.res, hc.fdr, hb3]; rfl
      have Nr := Lib.hid nr
      have Hbr := Lib.hid hb
      unfold maxLen at hmax1 hmax2
      clear hsk hdk hc hb3 hr nr hb sm
      go_wp2_with fail
      go_quiet (first
        | (go_at_call 101; exact quiet_eq (abs_any _ _ r64)))
      have Habs := Lib.hid (abs_num r Nr.out)
      have Hnw3 := Lib.hid (Hnw.out.draw nq)
      go_wp2_with fail
      all_goals
        go_roundw
        case rel =>
          first
            | exact ⟨k + 1, r % signBit, by omega, by rw [show ((k + 1 : Nat) : Int) = (k : Int) + 1 from by omega], rfl, Habs.out.1, by rw [show Flo.W (r % signBit) = _ from Habs.out.2]; exact ra_le Hbr.out, Hnw3.out⟩
            | exact ⟨k + 1, g, by omega, by rw [show ((k + 1 : Nat) : Int) = (k : Int) + 1 from by omega], rfl, Hg.out, Hgb.out, Hnw3.out⟩
        case measure => simp only [intOf]; omega
    · go_wp2_with fail
      go_ret2
      exact ⟨g, rfl, Hg.out, Hgb.out, Hn2.out.trans Hnw.out⟩

end Go.Proofs.Ytlhhcchncobmhaa

/- Plain facts: the sums over the modes of a body, and the drift's bound. No program stands in it.
   Conditions: those that each statement names. -/
namespace Go.Proofs.Ytlhhcchncobmhaa
set_option linter.unusedSimpArgs false
set_option linter.unusedVariables false
open Go

def rs (f : M4 → Rat) : List M4 → Rat
  | [] => 0
  | m :: ms => f m + rs f ms
theorem rs_nonneg (f : M4 → Rat) : ∀ ms : List M4, (∀ m ∈ ms, 0 ≤ f m) → 0 ≤ rs f ms
  | [], _ => by simp [rs]
  | m :: ms, h => by
    have := rs_nonneg f ms (fun m hm => h m (List.mem_cons_of_mem _ hm))
    have := h m (List.mem_cons_self ..)
    simp only [rs]; grind
theorem rs_le (f g : M4 → Rat) : ∀ ms : List M4, (∀ m ∈ ms, f m ≤ g m) → rs f ms ≤ rs g ms
  | [], _ => by simp [rs]
  | m :: ms, h => by
    have := rs_le f g ms (fun m hm => h m (List.mem_cons_of_mem _ hm))
    have := h m (List.mem_cons_self ..)
    simp only [rs]; grind
theorem rs_ab (f g : M4 → Rat) : ∀ ms : List M4, (∀ m ∈ ms, Flo.Ab (f m) (g m)) → Flo.Ab (rs f ms) (rs g ms)
  | [], _ => by simp [rs, Flo.Ab]
  | m :: ms, h => (h m (List.mem_cons_self ..)).add (rs_ab f g ms (fun m hm => h m (List.mem_cons_of_mem _ hm)))
theorem rs_lin (f g h : M4 → Rat) (a b : Rat) (e : ∀ m, f m = a * g m + b * h m) : ∀ ms : List M4, rs f ms = a * rs g ms + b * rs h ms
  | [] => by simp only [rs]; grind
  | m :: ms => by simp only [rs]; rw [e, rs_lin f g h a b e ms]; grind
theorem rs_const : ∀ ms : List M4, rs (fun _ => 1) ms = (ms.length : Rat)
  | [] => by simp [rs]
  | m :: ms => by
    simp only [rs, List.length_cons]
    rw [rs_const ms]
    have : ((ms.length + 1 : Nat) : Rat) = (ms.length : Rat) + 1 := by exact_mod_cast rfl
    rw [this]; grind
theorem rs_sub (f g h : M4 → Rat) (e : ∀ m, f m = g m - h m) (ms : List M4) : rs f ms = rs g ms - rs h ms := by
  rw [rs_lin f g h 1 (-1) (fun m => by rw [e]; grind) ms]; grind

/-- a sum from the left, rounded at each step -/
theorem fold_ok (k : FloatKind) (num : Nat → Prop) (val : Nat → Rat) (hadd : ∀ x y B, num x → num y → Flo.Ab (val x + val y) B → B < Flo.pw 127 → ∃ r, floatBits .add k x y = some r ∧ num r ∧ Flo.Ab (val r - (val x + val y)) (B * Flo.v + Flo.es))
    (f : M4 → Nat × Nat) (Bf : M4 → Rat) (T ε : Rat) (hε0 : 0 ≤ ε) (hε : (T + 16 * ε) * Flo.v + Flo.es ≤ ε) (hT : T + 16 * ε < Flo.pw 127) :
    ∀ (ms : List M4) (y : Nat) (A A0 : Rat) (j : Nat), num y → Flo.Ab (val y - A) ((j : Rat) * ε) → Flo.Ab A A0 → (∀ m ∈ ms, num (f m).1 ∧ Flo.Ab (val (f m).1) (Bf m)) → A0 + rs Bf ms ≤ T → j + ms.length ≤ 16 →
      (∀ (i : Nat) s, (ms.map f)[i]? = some s → Calm .add k (((ms.map f).take i).foldl (fun y s => opB .add k y s.1) y) s.1) ∧ num ((ms.map f).foldl (fun y s => opB .add k y s.1) y) ∧
        Flo.Ab (val ((ms.map f).foldl (fun y s => opB .add k y s.1) y) - (A + rs (fun m => val (f m).1) ms)) (((j + ms.length : Nat) : Rat) * ε)
  | [], y, A, A0, j, hy, he, hA, hm, hs, hj => by
    refine ⟨fun i s h => by simp at h, hy, ?_⟩
    simp only [List.map_nil, List.foldl_nil, rs, List.length_nil, Nat.add_zero]
    exact he.eq (by grind)
  | m :: ms, y, A, A0, j, hy, he, hA, hm, hs, hj => by
    obtain ⟨n1, b1⟩ := hm m (List.mem_cons_self ..)
    have hB0 := rs_nonneg Bf ms (fun m' hm' => (hm m' (List.mem_cons_of_mem _ hm')).2.nonneg)
    simp only [rs] at hs
    simp only [List.length_cons] at hj
    have hj16 : (j : Rat) ≤ 16 := by
      have : ((j : Nat) : Rat) ≤ ((16 : Nat) : Rat) := by exact_mod_cast (by omega : j ≤ 16)
      exact this
    have hj0 : (0 : Rat) ≤ (j : Rat) := by exact_mod_cast Nat.zero_le j
    have hje := Rat.mul_le_mul_of_nonneg_right hj16 hε0
    have hb : Flo.Ab (val y + val (f m).1) (T + 16 * ε) := ((he.add hA).add b1).eq (by grind) |>.mono (by grind)
    obtain ⟨r, r1, r2, r3⟩ := hadd y (f m).1 _ hy n1 hb hT
    obtain ⟨c1, e1⟩ := Calm.of r1
    have he' : Flo.Ab (val r - (A + val (f m).1)) (((j + 1 : Nat) : Rat) * ε) := by
      have h2 : ((j + 1 : Nat) : Rat) = (j : Rat) + 1 := by exact_mod_cast rfl
      rw [h2]
      exact ((r3.mono hε).add he).eq (by grind) |>.mono (by grind)
    obtain ⟨i1, i2, i3⟩ := fold_ok k num val hadd f Bf T ε hε0 hε hT ms r (A + val (f m).1) (A0 + Bf m) (j + 1) r2 he' (hA.add b1) (fun m' hm' => hm m' (List.mem_cons_of_mem _ hm')) (by grind) (by omega)
    rw [← e1] at i1 i2 i3
    refine ⟨fun i s h => ?_, i2, ?_⟩
    · cases i with
      | zero => simp at h; subst h; simpa using c1
      | succ i => simpa using i1 i s (by simpa using h)
    · simp only [List.map_cons, List.foldl_cons, rs, List.length_cons]
      rw [show j + (ms.length + 1) = j + 1 + ms.length from by omega]
      exact i3.eq (by grind)

theorem add_single : ∀ x y B, Sm x → Sm y → Flo.Ab (S x + S y) B → B < Flo.pw 127 → ∃ r, floatBits .add .f32 x y = some r ∧ Sm r ∧ Flo.Ab (S r - (S x + S y)) (B * Flo.v + Flo.es) :=
  fun x y B hx hy h hB => Flo.s_add x y hx hy B h hB
theorem add_double : ∀ x y B, Flo.Nm x → Flo.Nm y → Flo.Ab (Flo.W x + Flo.W y) B → B < Flo.pw 127 → ∃ r, floatBits .add .f64 x y = some r ∧ Flo.Nm r ∧ Flo.Ab (Flo.W r - (Flo.W x + Flo.W y)) (B * Flo.v + Flo.es) := by
  intro x y B hx hy h hB
  obtain ⟨r, r1, r2, r3⟩ := Flo.d_add x y hx hy B h (by have := small'.l0; grind)
  refine ⟨r, r1, r2, r3.mono ?_⟩
  have hB0 := h.nonneg
  have huv : Flo.u ≤ Flo.v := Flo.pw_le (by omega)
  have := Rat.mul_le_mul_of_nonneg_left huv hB0
  have := Flo.et_le_es
  grind

/-- the bound on a drift, by the product P of the sum of all gains' sizes and the input's sum -/
def bDrift (n q : Nat) (P : Rat) : Rat := ((n : Rat) + (q : Rat) + 1) * P * (7 / 8) * Flo.pw (-20) + Flo.pw (-120)

/-- the errors' sum, in plain numbers -/
theorem drift_sum (n q P v es z : Rat) (hn0 : 0 ≤ n) (hn : n ≤ 2000) (hq0 : 0 ≤ q) (hq : q ≤ 16) (hP : 0 ≤ P) (ve : v * 16777216 = 1) (e0 : 0 < es) (ez : 536870912 * es ≤ z) :
    2 * (n * (3 / 2 * (42 / 10 * (P * v) + q * (7 * es))) * (51 / 50)) + 2 * (q * (2 * (26 / 25 * P + q * (60000 * es)) * v + 2 * es)) ≤ (n + q + 1) * P * (27 / 32) * (v * 16) + z / 2 := by
  have hv : v = 1 / 16777216 := by grind
  subst hv
  have k1 := Rat.mul_nonneg hn0 hP
  have k2 := Rat.mul_nonneg hq0 hP
  have k3 := Rat.mul_le_mul_of_nonneg_right hn (Rat.mul_nonneg hq0 (Rat.le_of_lt e0))
  have k4 := Rat.mul_le_mul_of_nonneg_right hq (Rat.le_of_lt e0)
  have k5 := Rat.mul_le_mul_of_nonneg_right hq (Rat.mul_nonneg hq0 (Rat.le_of_lt e0))
  have k6 := Rat.mul_nonneg hq0 (Rat.le_of_lt e0)
  grind

theorem rs_ge (f : M4 → Rat) : ∀ (ms : List M4), (∀ m ∈ ms, 0 ≤ f m) → ∀ m ∈ ms, f m ≤ rs f ms
  | [], _, m, hm => by simp at hm
  | a :: ms, h, m, hm => by
    have h1 := rs_nonneg f ms (fun m hm => h m (List.mem_cons_of_mem _ hm))
    have h2 := h a (List.mem_cons_self ..)
    simp only [rs]
    rcases List.mem_cons.1 hm with rfl | hm
    · grind
    · have := rs_ge f ms (fun m hm => h m (List.mem_cons_of_mem _ hm)) m hm
      grind

set_option maxHeartbeats 3200000 in
/-- RINGING IN SINGLE PRECISION STAYS NEAR RINGING IN DOUBLE PRECISION. -/
theorem drift_ok (ms : List M4) (hms : ∀ m ∈ ms, m.ok) (x : Nat → Nat) (n q : Nat) (hq : ms.length = q) (hq16 : q ≤ 16) (hn : n ≤ 2000) (hx : ∀ i, i < n → Sm (x i)) (X : Rat) (hX : ∀ i, i ≤ n → psum (fun j => S (x j)) i ≤ X) (hX0 : 0 ≤ X)
    (hP : rs gm ms * X ≤ Flo.pw 100) : RingOk ms x n ∧ RingDOk ms x n ∧ DiffOk ms x n (bDrift n q (rs gm ms * X)) ∧ 0 ≤ bDrift n q (rs gm ms * X) := by
  have hG0 := rs_nonneg gm ms (fun m _ => gm_nonneg m)
  have hP0 := Rat.mul_nonneg hG0 hX0
  have hPm : ∀ m ∈ ms, gm m * X ≤ Flo.pw 100 := fun m hm => by
    have := Rat.mul_le_mul_of_nonneg_right (rs_ge gm ms (fun m _ => gm_nonneg m) m hm) hX0
    grind
  have hs := fun m hm => mode_single m (hms m hm) x n hn hx X hX (hPm m hm) hX0
  have hd := fun m hm => mode_double m (hms m hm) x n hn hx X hX (hPm m hm) hX0
  have hq0 : (0 : Rat) ≤ (q : Rat) := by exact_mod_cast Nat.zero_le q
  have hqr : (q : Rat) ≤ 16 := by
    have : ((q : Nat) : Rat) ≤ ((16 : Nat) : Rat) := by exact_mod_cast hq16
    exact this
  have hn0 : (0 : Rat) ≤ (n : Rat) := by exact_mod_cast Nat.zero_le n
  have hnr : (n : Rat) ≤ 2000 := by
    have : ((n : Nat) : Rat) ≤ ((2000 : Nat) : Rat) := by exact_mod_cast hn
    exact this
  have e0 := Flo.es_pos
  have ve := Flo.v_eq
  have hv : Flo.v = 1 / 16777216 := by grind
  -- the sum of the bounds
  have hT : rs (fun m => bM' (gm m * X)) ms = 26 / 25 * (rs gm ms * X) + (q : Rat) * (60000 * Flo.es) := by
    have h := rs_lin (fun m => bM' (gm m * X)) gm (fun _ => 1) (26 / 25 * X) (60000 * Flo.es) (fun m => by unfold bM'; grind) ms
    rw [h, rs_const, hq]; grind
  generalize hTT : rs (fun m => bM' (gm m * X)) ms = T at *
  have hT0 : 0 ≤ T := by
    rw [hT]
    have := Rat.mul_nonneg hq0 (show (0 : Rat) ≤ 60000 * Flo.es by grind)
    grind
  have hTmax : T ≤ Flo.pw 110 := by
    have l : Flo.pw 110 = 1024 * Flo.pw 100 := by rw [show (110 : Int) = 10 + 100 from rfl, Flo.pw_add, show Flo.pw 10 = 1024 from Flo.pw_nat 10]
    have o : 1 ≤ Flo.pw 100 := by rw [← Flo.pw_zero]; exact Flo.pw_le (by omega)
    have es1 := small'.es1
    have := Rat.mul_le_mul_of_nonneg_right hqr (show (0 : Rat) ≤ 60000 * Flo.es by grind)
    grind
  obtain ⟨ε, hεd⟩ : ∃ ε, ε = 2 * T * Flo.v + 2 * Flo.es := ⟨_, rfl⟩
  have hε0 : 0 ≤ ε := by rw [hεd, hv]; grind
  have hε : (T + 16 * ε) * Flo.v + Flo.es ≤ ε := by rw [hεd, hv]; grind
  have hTt : T + 16 * ε < Flo.pw 127 := by
    have l1 := Flo.pw_lt (a := 112) (b := 127) (by omega)
    have l2 : Flo.pw 112 = 4 * Flo.pw 110 := by rw [show (112 : Int) = 2 + 110 from rfl, Flo.pw_add, show Flo.pw 2 = 4 from Flo.pw_nat 2]
    have o : 1 ≤ Flo.pw 110 := by rw [← Flo.pw_zero]; exact Flo.pw_le (by omega)
    have es1 := small'.es1
    rw [hεd, hv]; grind
  -- the two sums at one step
  have sumS := fun i (hi : i < n) => fold_ok .f32 Sm S add_single (fun m => st1 m x (i + 1)) (fun m => bM' (gm m * X)) T ε hε0 hε hTt ms 0 0 0 0 zero_single.1 (by rw [zero_single.2]; unfold Flo.Ab; simp; grind) (by unfold Flo.Ab; simp)
    (fun m hm => ⟨((hs m hm).1 (i + 1) (by omega)).1.1, ((hs m hm).1 (i + 1) (by omega)).2.2.ab.1⟩) (by rw [hTT]; grind) (by omega)
  have sumD := fun i (hi : i < n) => fold_ok .f64 Flo.Nm Flo.W add_double (fun m => st1D m x (i + 1)) (fun m => bM' (gm m * X)) T ε hε0 hε hTt ms 0 0 0 0 zero_num.1 (by rw [zero_num.2]; unfold Flo.Ab; simp; grind) (by unfold Flo.Ab; simp)
    (fun m hm => ⟨((hd m hm).1 (i + 1) (by omega)).1.1, ((hd m hm).1 (i + 1) (by omega)).2.2.ab.1⟩) (by rw [hTT]; grind) (by omega)
  refine ⟨fun i hi => ⟨?_, ?_⟩, fun i hi => ⟨hx i hi, ?_, ?_⟩, fun i hi => ?_, ?_⟩
  · intro k m s hm hst
    rw [stAt_map, List.getElem?_map, hm] at hst
    simp at hst
    subst hst
    exact (hs m (List.mem_of_getElem? hm)).2 i hi
  · intro k s h
    rw [stAt_map] at h ⊢
    exact (sumS i hi).1 k s h
  · intro k m s hm hst
    rw [stDAt_map, List.getElem?_map, hm] at hst
    simp at hst
    subst hst
    exact (hd m (List.mem_of_getElem? hm)).2 i hi
  · intro k s h
    rw [stDAt_map] at h ⊢
    exact (sumD i hi).1 k s h
  · obtain ⟨-, a2, a3⟩ := sumS i hi
    obtain ⟨-, b2, b3⟩ := sumD i hi
    have eS : outS (stAt ms x (i + 1)) = (ms.map fun m => st1 m x (i + 1)).foldl (fun y s => opB .add .f32 y s.1) 0 := by rw [stAt_map]; rfl
    have eD : outD (stDAt ms x (i + 1)) = (ms.map fun m => st1D m x (i + 1)).foldl (fun y s => opB .add .f64 y s.1) 0 := by rw [stDAt_map]; rfl
    rw [← eS] at a2 a3
    rw [← eD] at b2 b3
    generalize outS (stAt ms x (i + 1)) = oS at *
    generalize outD (stDAt ms x (i + 1)) = oD at *
    refine ⟨a2, ?_⟩
    rw [hq, Nat.zero_add] at a3 b3
    -- the difference of the exact sums
    have hdiff : Flo.Ab (rs (fun m => Flo.W (st1D m x (i + 1)).1) ms - rs (fun m => S (st1 m x (i + 1)).1) ms) (rs (fun m => 2 * ((n : Rat) * (3 / 2 * bL (gm m * X)) * (51 / 50))) ms) := by
      rw [← rs_sub (fun m => Flo.W (st1D m x (i + 1)).1 - S (st1 m x (i + 1)).1) _ _ (fun _ => rfl) ms]
      refine rs_ab _ _ ms fun m hm => ?_
      have k1 := ((hs m hm).1 (i + 1) (by omega)).2.1.ab.1
      have k2 := ((hd m hm).1 (i + 1) (by omega)).2.1.ab.1
      have hL := (bL_le (gm m * X) (Rat.mul_nonneg (gm_nonneg m) hX0)).1
      have hin : ((i + 1 : Nat) : Rat) ≤ (n : Rat) := by exact_mod_cast hi
      have hi0 : (0 : Rat) ≤ ((i + 1 : Nat) : Rat) := by exact_mod_cast Nat.zero_le _
      have f1 : 1 + ((i + 1 : Nat) : Rat) / 100000 ≤ 51 / 50 := by grind
      have g1 := Rat.mul_le_mul_of_nonneg_right hin (show 0 ≤ 3 / 2 * bL (gm m * X) by grind)
      have g2 := Rat.mul_nonneg hi0 (show 0 ≤ 3 / 2 * bL (gm m * X) by grind)
      have g3 := Rat.mul_le_mul_of_nonneg_left f1 g2
      exact ((k2.sub k1).eq (by grind)).mono (by grind)
    have hsum : rs (fun m => 2 * ((n : Rat) * (3 / 2 * bL (gm m * X)) * (51 / 50))) ms ≤ 2 * ((n : Rat) * (3 / 2 * (42 / 10 * (rs gm ms * X * Flo.v) + (q : Rat) * (7 * Flo.es))) * (51 / 50)) := by
      have h1 := rs_le (fun m => 2 * ((n : Rat) * (3 / 2 * bL (gm m * X)) * (51 / 50))) (fun m => 2 * ((n : Rat) * (3 / 2 * (42 / 10 * (gm m * X * Flo.v) + 7 * Flo.es)) * (51 / 50))) ms (fun m hm => by
        have hL := (bL_le (gm m * X) (Rat.mul_nonneg (gm_nonneg m) hX0)).2
        have := Rat.mul_le_mul_of_nonneg_left hL hn0
        grind)
      have h2 := rs_lin (fun m => 2 * ((n : Rat) * (3 / 2 * (42 / 10 * (gm m * X * Flo.v) + 7 * Flo.es)) * (51 / 50))) gm (fun _ => 1) (2 * ((n : Rat) * (3 / 2 * (42 / 10 * (X * Flo.v))) * (51 / 50))) (2 * ((n : Rat) * (3 / 2 * (7 * Flo.es)) * (51 / 50))) (fun m => by grind) ms
      rw [rs_const, hq] at h2
      rw [h2] at h1
      grind
    have hez : 536870912 * Flo.es ≤ Flo.pw (-120) := by
      have : Flo.pw (-120) = Flo.pw 29 * Flo.pw (-149) := by rw [← Flo.pw_add]; rfl
      rw [this, show Flo.pw 29 = 536870912 from Flo.pw_nat 29]
      exact Rat.le_refl
    have hfin := drift_sum (n : Rat) (q : Rat) (rs gm ms * X) Flo.v Flo.es (Flo.pw (-120)) hn0 hnr hq0 hqr hP0 ve e0 hez
    have hv16 : Flo.v * 16 = Flo.pw (-20) := by
      have : Flo.pw (-20) = Flo.pw 4 * Flo.pw (-24) := by rw [← Flo.pw_add]; rfl
      rw [this, show Flo.pw 4 = 16 from Flo.pw_nat 4]; unfold Flo.v; grind
    rw [hv16] at hfin
    have hall : Flo.Ab (Flo.W oD - S oS) (((n : Rat) + (q : Rat) + 1) * (rs gm ms * X) * (27 / 32) * Flo.pw (-20) + Flo.pw (-120) / 2) := by
      refine (((b3.sub a3).add hdiff).eq (by grind)).mono ?_
      rw [hεd, hT]
      grind
    obtain ⟨nw, vw⟩ := wid_num a2
    rw [← vw] at hall
    have hz := Flo.pw_pos (-120)
    have h20 := Flo.pw_pos (-20)
    have hK0 : 0 ≤ ((n : Rat) + (q : Rat) + 1) * (rs gm ms * X) := Rat.mul_nonneg (by grind) hP0
    have hK := Rat.mul_le_mul_of_nonneg_right (show (n : Rat) + (q : Rat) + 1 ≤ 2048 by grind) hP0
    have hbig : ((n : Rat) + (q : Rat) + 1) * (rs gm ms * X) * (27 / 32) * Flo.pw (-20) + Flo.pw (-120) / 2 < Flo.pw 1023 := by
      have l1 : Flo.pw (-20) ≤ 1 := by rw [← Flo.pw_zero]; exact Flo.pw_le (by omega)
      have l2 : Flo.pw (-120) ≤ 1 := by rw [← Flo.pw_zero]; exact Flo.pw_le (by omega)
      have l3 : Flo.pw 112 = 4096 * Flo.pw 100 := by rw [show (112 : Int) = 12 + 100 from rfl, Flo.pw_add, show Flo.pw 12 = 4096 from Flo.pw_nat 12]
      have l4 := Flo.pw_lt (a := 112) (b := 1023) (by omega)
      have o : 1 ≤ Flo.pw 100 := by rw [← Flo.pw_zero]; exact Flo.pw_le (by omega)
      have k := Rat.mul_le_mul_of_nonneg_left l1 (show 0 ≤ ((n : Rat) + (q : Rat) + 1) * (rs gm ms * X) * (27 / 32) by grind)
      grind
    obtain ⟨r, r1, r2, r3⟩ := Flo.d_sub oD (wid oS) b2 nw _ hall hbig
    refine ⟨r, r1, r2, ((r3.add hall).eq (by grind)).mono ?_⟩
    unfold bDrift
    have u1 := Flo.u_le
    have u0 := Flo.u_pos
    have et0 : Flo.et ≤ Flo.pw (-120) / 4 := by
      have : Flo.pw (-1074) ≤ Flo.pw (-122) := Flo.pw_le (by omega)
      have e : Flo.pw (-120) = 4 * Flo.pw (-122) := by rw [show (-120 : Int) = 2 + -122 from rfl, Flo.pw_add, show Flo.pw 2 = 4 from Flo.pw_nat 2]
      unfold Flo.et; grind
    have hKp := Rat.mul_nonneg hK0 (Rat.le_of_lt h20)
    have k1 := Rat.mul_le_mul_of_nonneg_left u1 hKp
    have k2 := Rat.mul_le_mul_of_nonneg_left u1 (Rat.le_of_lt hz)
    grind
  · have hz := Flo.pw_pos (-120)
    have hK0 : 0 ≤ ((n : Rat) + (q : Rat) + 1) * (rs gm ms * X) := Rat.mul_nonneg (by grind) hP0
    have hKp := Rat.mul_nonneg hK0 (Rat.le_of_lt (Flo.pw_pos (-20)))
    unfold bDrift
    grind

end Go.Proofs.Ytlhhcchncobmhaa

/- Plain facts: sums of sizes in double precision, and the drift's test as the law makes it. No program stands in it.
   Conditions: those that each statement names. -/
namespace Go.Proofs.Ytlhhcchncobmhaa
set_option linter.unusedSimpArgs false
set_option linter.unusedVariables false
open Go

theorem u_tiny : Flo.u ≤ 1 / 1000000000000 := by
  have h1 := uv
  have ve := Flo.v_eq
  grind

/-- one more summand: c is a millionth -/
theorem acc_sum (A a G T r k u et es : Rat) (hA : 0 ≤ A) (ha : 0 ≤ a) (hk : 0 ≤ k) (hk2 : k ≤ 16) (u0 : 0 < u) (u1 : u ≤ 1 / 1000000000000) (e0 : 0 < et) (ee : et ≤ es / 1024) (h1 : Flo.Ab (G - A) (A * k / 1000000 + k * es)) (h2 : Flo.Ab (T - a) (a * u + et)) :
    Flo.Ab (G + T) (2 * A + 2 * a + 32 * es) ∧ (Flo.Ab (r - (G + T)) ((2 * A + 2 * a + 32 * es) * u + et) → Flo.Ab (r - (A + a)) ((A + a) * (k + 1) / 1000000 + (k + 1) * es)) := by
  have hes : 0 < es := by grind
  have k1 := Rat.mul_le_mul_of_nonneg_right hk2 hA
  have k2 := Rat.mul_le_mul_of_nonneg_right hk2 (Rat.le_of_lt hes)
  have k3 := Rat.mul_le_mul_of_nonneg_left u1 hA
  have k4 := Rat.mul_le_mul_of_nonneg_left u1 ha
  have k5 := Rat.mul_le_mul_of_nonneg_left u1 (Rat.le_of_lt hes)
  have k6 := Rat.mul_nonneg hk ha
  have k7 := Rat.mul_nonneg ha (Rat.le_of_lt u0)
  have k8 := Rat.mul_nonneg hk hA
  have k9 := Rat.mul_nonneg hk (Rat.le_of_lt hes)
  unfold Flo.Ab at *
  constructor
  · constructor <;> grind
  · intro h3
    constructor <;> grind

/-- the first part of a product of two bounded errors -/
theorem prod_sum (P Q p q x y es c K1 : Rat) (hP : 0 ≤ P) (hQ : 0 ≤ Q) (hPm : P ≤ 33554432) (hQm : Q ≤ 8192) (h1 : Flo.Ab (p - P) (P * 6 / 1000000 + 4096 * es)) (h2 : Flo.Ab (q - Q) (Q * 12 / 1000000 + 12 * es)) (e0 : 0 < es) (e1 : es ≤ 1 / 1048576) :
    Flo.Ab (p * q - P * Q) (P * Q * 19 / 1000000 + 1073741824 * es) := by
  have hPQ := Rat.mul_nonneg hP hQ
  have a1 := Rat.mul_le_mul_of_nonneg_right hPm (Rat.le_of_lt e0)
  have a2 := Rat.mul_le_mul_of_nonneg_right hQm (Rat.le_of_lt e0)
  have a3 := Rat.mul_le_mul_of_nonneg_right e1 (Rat.le_of_lt e0)
  have a4 := Rat.mul_nonneg hP (Rat.le_of_lt e0)
  have a5 := Rat.mul_nonneg hQ (Rat.le_of_lt e0)
  have hq : Flo.Ab q (Q + (Q * 12 / 1000000 + 12 * es)) := by unfold Flo.Ab at *; constructor <;> grind
  have hPa : Flo.Ab P P := ⟨by grind, by grind⟩
  have k := (h1.mul hq).add (hPa.mul h2)
  refine (k.eq (by grind)).mono ?_
  grind

structure Pows : Prop where
  l1 : Flo.pw 40 < Flo.pw 1023
  l2 : Flo.pw 40 = 1099511627776
  z20 : Flo.pw (-20) * 1048576 = 1
  z100 : Flo.pw (-100) = 1048576 * Flo.pw (-120)
  z120 : Flo.pw (-120) = 536870912 * Flo.es
  es0 : 0 < Flo.es
  es1 : Flo.es ≤ 1 / 1048576
theorem pows : Pows where
  l1 := Flo.pw_lt (by omega)
  l2 := Flo.pw_nat 40
  z20 := by
    have e := Flo.pw_neg_mul 20
    rw [show Flo.pw 20 = 1048576 from Flo.pw_nat 20] at e
    exact e
  z100 := by rw [show (-100 : Int) = 20 + -120 from rfl, Flo.pw_add, show Flo.pw 20 = 1048576 from Flo.pw_nat 20]
  z120 := by
    have : Flo.pw (-120) = Flo.pw 29 * Flo.pw (-149) := by rw [← Flo.pw_add]; rfl
    rw [this, show Flo.pw 29 = 536870912 from Flo.pw_nat 29]; rfl
  es0 := Flo.es_pos
  es1 := small'.es1

set_option maxHeartbeats 1600000 in
/-- THE LAW's TEST OF THE DRIFT. -/
theorem test_ok (A g s d : Nat) (Nr G X : Rat) (nA : Flo.Nm A) (vA : Flo.W A = Nr) (hN0 : 0 ≤ Nr) (hN1 : Nr ≤ 512) (ng : Flo.Nm g) (hg : Flo.Ab (Flo.W g - G) (G * 5 / 1000000 + 5 * Flo.es)) (hG0 : 0 ≤ G) (hG1 : G ≤ 32768)
    (ns : Flo.Nm s) (hs : Flo.Ab (Flo.W s - X) (X * 12 / 1000000 + 12 * Flo.es)) (hX0 : 0 ≤ X) (hX1 : X ≤ 4096) (nd : Flo.Nm d) (hd : Flo.W d ≤ Nr * (G * X) * (7 / 8) * Flo.pw (-20) + Flo.pw (-120)) :
    Calm .mul .f64 A g ∧ Calm .mul .f64 (opB .mul .f64 A g) s ∧ Calm .mul .f64 (opB .mul .f64 (opB .mul .f64 A g) s) (powB 20) ∧ Calm .add .f64 (opB .mul .f64 (opB .mul .f64 (opB .mul .f64 A g) s) (powB 20)) (powB 100) ∧
      leB d (opB .add .f64 (opB .mul .f64 (opB .mul .f64 (opB .mul .f64 A g) s) (powB 20)) (powB 100)) = true := by
  obtain ⟨l1, l2, z20, z100, z120, es0, es1⟩ := pows
  have u0 := Flo.u_pos
  have u1 := u_tiny
  have et0 := Flo.et_pos
  have ee := small'.ee
  have hz : Flo.pw (-20) = 1 / 1048576 := by grind
  obtain ⟨n20, v20⟩ := powB_ok 20 (by omega)
  obtain ⟨n100, v100⟩ := powB_ok 100 (by omega)
  rw [show (-((20 : Nat) : Int)) = -20 from rfl, hz] at v20
  rw [show (-((100 : Nat) : Int)) = -100 from rfl] at v100
  -- N G
  have hNG0 := Rat.mul_nonneg hN0 hG0
  have hNG1 : Nr * G ≤ 16777216 := by
    have a := Rat.mul_le_mul_of_nonneg_right hN1 hG0
    grind
  have hNA : Flo.Ab Nr 512 := ⟨by grind, hN1⟩
  have hNN : Flo.Ab Nr Nr := ⟨by grind, by grind⟩
  have k0 := (hNN.mul hg).eq (show Nr * (Flo.W g - G) = Flo.W A * Flo.W g - Nr * G by rw [vA]; grind)
  have hNe := Rat.mul_le_mul_of_nonneg_right hN1 (Rat.le_of_lt es0)
  have k1 : Flo.Ab (Flo.W A * Flo.W g - Nr * G) (Nr * G * 5 / 1000000 + 2560 * Flo.es) := k0.mono (by grind)
  have hNGu := Rat.mul_le_mul_of_nonneg_left u1 hNG0
  have heu := Rat.mul_le_mul_of_nonneg_left u1 (Rat.le_of_lt es0)
  have k2 : Flo.Ab (Flo.W A * Flo.W g) (2 * (Nr * G) + 2560 * Flo.es) := by unfold Flo.Ab at *; constructor <;> grind
  obtain ⟨m1, a1, a2, a3⟩ := Flo.d_mul A g nA ng _ k2 (by grind)
  obtain ⟨c1, b1⟩ := Calm.of a1
  have k3 : Flo.Ab (Flo.W m1 - Nr * G) (Nr * G * 6 / 1000000 + 4096 * Flo.es) := ((a3.add k1).eq (by grind)).mono (by grind)
  -- N G X
  have k4 := prod_sum (Nr * G) X (Flo.W m1) (Flo.W s) 0 0 Flo.es 0 0 hNG0 hX0 (by grind) (by grind) k3 hs es0 es1
  have hP0 := Rat.mul_nonneg hNG0 hX0
  have hP1 : Nr * G * X ≤ 68719476736 := by
    have a := Rat.mul_le_mul_of_nonneg_right hNG1 hX0
    grind
  have hPu := Rat.mul_le_mul_of_nonneg_left u1 hP0
  have hPP : Flo.Ab (Nr * G * X) (Nr * G * X) := ⟨by grind, by grind⟩
  have k5 : Flo.Ab (Flo.W m1 * Flo.W s) (2 * (Nr * G * X) + 1073741824 * Flo.es) := ((k4.add hPP).eq (by grind)).mono (by grind)
  obtain ⟨m2, d1, d2, d3⟩ := Flo.d_mul m1 s a2 ns _ k5 (by grind)
  obtain ⟨c2, b2⟩ := Calm.of d1
  have k6 : Flo.Ab (Flo.W m2 - Nr * G * X) (Nr * G * X * 20 / 1000000 + 1073741825 * Flo.es) := ((d3.add k4).eq (by grind)).mono (by grind)
  -- times 2^-20
  have k7 : Flo.Ab (Flo.W m2 * Flo.W (powB 20)) (2 * (Nr * G * X) + 1073741825 * Flo.es) := by rw [v20]; unfold Flo.Ab at *; constructor <;> grind
  obtain ⟨m3, e1, e2, e3⟩ := Flo.d_mul m2 (powB 20) d2 n20 _ k7 (by grind)
  obtain ⟨c3, b3⟩ := Calm.of e1
  rw [v20] at e3
  have k8 : Flo.Ab (Flo.W m3 - Nr * G * X * Flo.pw (-20)) (Nr * G * X * Flo.pw (-20) * 30 / 1000000 + 2048 * Flo.es) := by
    rw [hz]; unfold Flo.Ab at *; constructor <;> grind
  -- plus 2^-100
  have hQ0 : 0 ≤ Nr * G * X * Flo.pw (-20) := by rw [hz]; grind
  have hQ1 : Nr * G * X * Flo.pw (-20) ≤ 65536 := by rw [hz]; grind
  have hdd : Nr * (G * X) * (7 / 8) * Flo.pw (-20) = Nr * G * X * Flo.pw (-20) * (7 / 8) := by grind
  rw [hdd] at hd
  clear hdd
  generalize Nr * G * X * Flo.pw (-20) = Q at *
  have h100 : 0 < Flo.pw (-100) := Flo.pw_pos _
  have h100b : Flo.pw (-100) ≤ 1 := by rw [← Flo.pw_zero]; exact Flo.pw_le (by omega)
  have k9 : Flo.Ab (Flo.W m3 + Flo.W (powB 100)) (2 * Q + 2 * Flo.pw (-100)) := by rw [v100]; unfold Flo.Ab at *; constructor <;> grind
  have hQu := Rat.mul_le_mul_of_nonneg_left u1 hQ0
  have hzu := Rat.mul_le_mul_of_nonneg_left u1 (Rat.le_of_lt h100)
  obtain ⟨m4, f1, f2, f3⟩ := Flo.d_add m3 (powB 100) e2 n100 _ k9 (by grind)
  obtain ⟨c4, b4⟩ := Calm.of f1
  rw [v100] at f3
  have hlow : Flo.W d ≤ Flo.W m4 := by
    unfold Flo.Ab at k8 f3
    grind
  rw [← b1] at c2 b2
  rw [← b2] at c3 b3
  rw [← b3] at c4 b4
  exact ⟨c1, c2, c3, c4, by rw [b4]; exact (leB_iff nd f2).2 hlow⟩

/-! ### the two sums of the law -/
theorem acc_add (g t k : Nat) (A a : Rat) (hk : k ≤ 15) (hA : 0 ≤ A) (ha : 0 ≤ a) (hAa : A + a ≤ 100000) (ng : Flo.Nm g) (nt : Flo.Nm t) (h1 : Flo.Ab (Flo.W g - A) (A * (k : Rat) / 1000000 + (k : Rat) * Flo.es)) (h2 : Flo.Ab (Flo.W t - a) (a * Flo.u + Flo.et)) :
    Calm .add .f64 g t ∧ Flo.Nm (opB .add .f64 g t) ∧ Flo.Ab (Flo.W (opB .add .f64 g t) - (A + a)) ((A + a) * ((k + 1 : Nat) : Rat) / 1000000 + ((k + 1 : Nat) : Rat) * Flo.es) := by
  have hk0 : (0 : Rat) ≤ (k : Rat) := by exact_mod_cast Nat.zero_le k
  have hk1 : (k : Rat) ≤ 16 := by
    have : ((k : Nat) : Rat) ≤ ((16 : Nat) : Rat) := by exact_mod_cast (by omega : k ≤ 16)
    exact this
  obtain ⟨l1, l2, -, -, -, es0, es1⟩ := pows
  obtain ⟨b1, b2⟩ := acc_sum A a (Flo.W g) (Flo.W t) (Flo.W (opB .add .f64 g t)) (k : Rat) Flo.u Flo.et Flo.es hA ha hk0 hk1 Flo.u_pos u_tiny Flo.et_pos small'.ee h1 h2
  obtain ⟨r, r1, r2, r3⟩ := Flo.d_add g t ng nt _ b1 (by grind)
  obtain ⟨c1, e1⟩ := Calm.of r1
  rw [← e1] at r2 r3
  have h3 : ((k + 1 : Nat) : Rat) = (k : Rat) + 1 := by exact_mod_cast rfl
  rw [h3]
  exact ⟨c1, r2, b2 r3⟩
theorem acc_subt (g t k : Nat) (A a : Rat) (hk : k ≤ 15) (hA : 0 ≤ A) (ha : 0 ≤ a) (hAa : A + a ≤ 100000) (ng : Flo.Nm g) (nt : Flo.Nm t) (h1 : Flo.Ab (Flo.W g - A) (A * (k : Rat) / 1000000 + (k : Rat) * Flo.es)) (h2 : Flo.Ab (-Flo.W t - a) (a * Flo.u + Flo.et)) :
    Calm .sub .f64 g t ∧ Flo.Nm (opB .sub .f64 g t) ∧ Flo.Ab (Flo.W (opB .sub .f64 g t) - (A + a)) ((A + a) * ((k + 1 : Nat) : Rat) / 1000000 + ((k + 1 : Nat) : Rat) * Flo.es) := by
  have hk0 : (0 : Rat) ≤ (k : Rat) := by exact_mod_cast Nat.zero_le k
  have hk1 : (k : Rat) ≤ 16 := by
    have : ((k : Nat) : Rat) ≤ ((16 : Nat) : Rat) := by exact_mod_cast (by omega : k ≤ 16)
    exact this
  obtain ⟨l1, l2, -, -, -, es0, es1⟩ := pows
  obtain ⟨b1, b2⟩ := acc_sum A a (Flo.W g) (-Flo.W t) (Flo.W (opB .sub .f64 g t)) (k : Rat) Flo.u Flo.et Flo.es hA ha hk0 hk1 Flo.u_pos u_tiny Flo.et_pos small'.ee h1 h2
  obtain ⟨r, r1, r2, r3⟩ := Flo.d_sub g t ng nt _ (b1.eq (show Flo.W g + -Flo.W t = Flo.W g - Flo.W t by grind)) (by grind)
  obtain ⟨c1, e1⟩ := Calm.of r1
  rw [← e1] at r2 r3
  have h3 : ((k + 1 : Nat) : Rat) = (k : Rat) + 1 := by exact_mod_cast rfl
  rw [h3]
  exact ⟨c1, r2, b2 (r3.eq (by grind))⟩

/-- a valid mode's gain: its size in double precision -/
theorem gain_ok (m : M4) (hm : m.ok) : Flo.Nm (szd (wid m.gr) (wid m.gi)) ∧ Flo.Ab (Flo.W (szd (wid m.gr) (wid m.gi)) - gm m) (gm m * Flo.u + Flo.et) ∧ gm m ≤ 2048 := by
  obtain ⟨n1, n2, n3, n4⟩ := hm.nums
  obtain ⟨-, -, -, -, -, h6, h7⟩ := Valid.parts hm
  obtain ⟨m3, v3⟩ := wid_num n3
  obtain ⟨m4, v4⟩ := wid_num n4
  obtain ⟨l3, lv3⟩ := labs_num _ (wid_lt m.gr) m3
  obtain ⟨l4, lv4⟩ := labs_num _ (wid_lt m.gi) m4
  rw [v3] at lv3
  rw [v4] at lv4
  have v1024 : Flo.W 4652218415073722368 = 1024 := by
    have h : Ieee.double.read 4652218415073722368 = .number false 4503599627370496 (-42) := by decide
    rw [show Flo.W 4652218415073722368 = _ from Flo.V_eq h]
    unfold Flo.val
    have := Flo.pw_neg_mul 42
    rw [show Flo.pw 42 = 4398046511104 from Flo.pw_nat 42] at this
    simp only [Bool.false_eq_true, if_false]
    have e2 : ((4503599627370496 : Nat) : Rat) = 4503599627370496 := rfl
    rw [e2]; grind
  have g3 := (leB_iff l3 num_1024).1 h6
  have g4 := (leB_iff l4 num_1024).1 h7
  rw [v1024] at g3 g4
  have a3 := ra_nonneg (S m.gr)
  have a4 := ra_nonneg (S m.gi)
  obtain ⟨l1, l2, -, -, -, es0, es1⟩ := pows
  have he : Flo.W (labs (wid m.gr)) + Flo.W (labs (wid m.gi)) = gm m := by rw [lv3, lv4]; rfl
  obtain ⟨r, r1, r2, r3⟩ := Flo.d_add _ _ l3 l4 (gm m) (by rw [he]; unfold gm Flo.Ab; grind) (by rw [← he]; grind)
  have hr : szd (wid m.gr) (wid m.gi) = r := by unfold szd; rw [r1]; rfl
  rw [hr]
  rw [he] at r3
  exact ⟨r2, r3, by rw [← he]; grind⟩

def xsum : List Nat → Rat
  | [] => 0
  | x :: l => ra (S x) + xsum l
theorem xsum_nonneg : ∀ l, 0 ≤ xsum l
  | [] => by simp [xsum]
  | x :: l => by have := xsum_nonneg l; have := ra_nonneg (S x); simp only [xsum]; grind
theorem xsum_app : ∀ a b, xsum (a ++ b) = xsum a + xsum b
  | [], b => by simp only [List.nil_append, xsum]; grind
  | x :: a, b => by simp only [List.cons_append, xsum]; rw [xsum_app a b]; grind
theorem xsum_take (l : List Nat) (k : Nat) (x : Nat) (h : l[k]? = some x) : xsum (l.take (k + 1)) = xsum (l.take k) + ra (S x) := by
  obtain ⟨hk, he⟩ := List.getElem?_eq_some_iff.1 h
  rw [List.take_succ_eq_append_getElem hk, he, xsum_app]
  simp only [xsum]; grind
theorem xsum_take_le (l : List Nat) (k : Nat) : xsum (l.take k) ≤ xsum l := by
  have h := xsum_app (l.take k) (l.drop k)
  rw [List.take_append_drop] at h
  have := xsum_nonneg (l.drop k)
  grind
theorem xsum_le (l : List Nat) (B : Rat) (h : ∀ x ∈ l, ra (S x) ≤ B) : xsum l ≤ (l.length : Rat) * B := by
  induction l with
  | nil => simp [xsum]
  | cons x l ih =>
    have h1 := ih (fun y hy => h y (List.mem_cons_of_mem _ hy))
    have h2 := h x (List.mem_cons_self ..)
    have h3 : ((l.length + 1 : Nat) : Rat) = (l.length : Rat) + 1 := by exact_mod_cast rfl
    simp only [xsum, List.length_cons]
    rw [h3]; grind
theorem psum_xsum (xs : List Nat) : ∀ i, psum (fun j => S (inputOf xs j)) i = xsum (xs.take i)
  | 0 => by simp [psum, xsum]
  | i + 1 => by
    simp only [psum]
    rw [psum_xsum xs i]
    by_cases hi : i < xs.length
    · have e : xs[i]? = some xs[i] := List.getElem?_eq_getElem hi
      rw [xsum_take xs i _ e, show inputOf xs i = xs[i] from by unfold inputOf; rw [List.getD_eq_getElem?_getD, e]; rfl]
    · rw [show inputOf xs i = 0 from by unfold inputOf; rw [List.getD_eq_getElem?_getD, List.getElem?_eq_none (by omega)]; rfl, zero_single.2, List.take_of_length_le (by omega), List.take_of_length_le (by omega)]
      have : ra 0 = 0 := by unfold ra; rw [if_neg (by grind)]
      rw [this]; grind

theorem rs_app (f : M4 → Rat) : ∀ a b, rs f (a ++ b) = rs f a + rs f b
  | [], b => by simp only [List.nil_append, rs]; grind
  | x :: a, b => by simp only [List.cons_append, rs]; rw [rs_app f a b]; grind
theorem rs_take (f : M4 → Rat) (l : List M4) (k : Nat) (m : M4) (h : l[k]? = some m) : rs f (l.take (k + 1)) = rs f (l.take k) + f m := by
  obtain ⟨hk, he⟩ := List.getElem?_eq_some_iff.1 h
  rw [List.take_succ_eq_append_getElem hk, he, rs_app]
  simp only [rs]; grind
theorem rs_max (f : M4 → Rat) (B : Rat) : ∀ l : List M4, (∀ m ∈ l, f m ≤ B) → rs f l ≤ (l.length : Rat) * B
  | [], _ => by simp [rs]
  | m :: l, h => by
    have h1 := rs_max f B l (fun m hm => h m (List.mem_cons_of_mem _ hm))
    have h2 := h m (List.mem_cons_self ..)
    have h3 : ((l.length + 1 : Nat) : Rat) = (l.length : Rat) + 1 := by exact_mod_cast rfl
    simp only [rs, List.length_cons]
    rw [h3]; grind

/-- 'x < 0' -/
def neg32 (x : Nat) : Bool := FloatKind.f32.format.order x 0 == some .lt
theorem neg32_iff {x : Nat} (h : Sm x) : (neg32 x = true → ra (S x) = -S x) ∧ (neg32 x = false → ra (S x) = S x) := by
  have o := (Flo.order_num Ieee.single x 0 h zero_single.1).1
  rw [show Flo.V Ieee.single 0 = 0 from zero_single.2] at o
  unfold neg32 ra
  rw [show FloatKind.f32.format = Ieee.single from rfl]
  constructor
  · intro hn
    rw [if_pos (o.1 (by simpa using hn))]
  · intro hn
    have : ¬ Flo.V Ieee.single x < 0 := fun g => by rw [o.2 g] at hn; simp at hn
    rw [if_neg this]

theorem Calm.runs {P : Program} {o : BinOp} {k : FloatKind} {x y : Nat} (h : Calm o k x y) (ho : o = .add ∨ o = .sub ∨ o = .mul) (t : TypeId) (w : World) : (binOp o t (.float k x) (.float k y)).run P w = .ok (.float k (opB o k x y)) w := by
  rcases ho with rfl | rfl | rfl
  · rw [run_fl_add, h.res, h.fdr]; rfl
  · rw [run_fl_sub, h.res, h.fdr]; rfl
  · rw [run_fl_mul, h.res, h.fdr]; rfl

end Go.Proofs.Ytlhhcchncobmhaa

/- Ringing as plain functions: a late input, the factor 1, the first samples. No walk stands in it.
   Conditions: those that each statement names. -/
namespace Go.Proofs.Ytlhhcchncobmhaa
set_option linter.unusedSimpArgs false
set_option linter.unusedVariables false
open Go

abbrev EvS (a b : Nat) : Prop := Flo.Ev Ieee.single a b
theorem opB_add_ev (k : FloatKind) {x x' y y' : Nat} (h : Flo.Ev k.format x x') (g : Flo.Ev k.format y y') : Flo.Ev k.format (opB .add k x y) (opB .add k x' y') := (Flo.add_ev k.format _ _ _ _ h g).getD
theorem opB_sub_ev (k : FloatKind) {x x' y y' : Nat} (h : Flo.Ev k.format x x') (g : Flo.Ev k.format y y') : Flo.Ev k.format (opB .sub k x y) (opB .sub k x' y') := (Flo.sub_ev k.format _ _ _ _ h g).getD
theorem opB_mul_ev (k : FloatKind) {x x' y y' : Nat} (h : Flo.Ev k.format x x') (g : Flo.Ev k.format y y') : Flo.Ev k.format (opB .mul k x y) (opB .mul k x' y') := (Flo.mul_ev k.format _ _ _ _ h g).getD
theorem wid_zr {a : Nat} (h : Flo.Zr Ieee.single a) : Flo.Zr Ieee.double (wid a) := by
  obtain ⟨s, p, h⟩ := h
  unfold wid FloatKind.encode FloatKind.decode
  rw [show FloatKind.f32.format = Ieee.single from rfl, h]
  exact Flo.write_zero Ieee.double s p
theorem wid_ev {a b : Nat} (h : EvS a b) : Flo.Ev Ieee.double (wid a) (wid b) := by
  rcases h with rfl | ⟨h1, h2⟩
  · exact .inl rfl
  · exact .inr ⟨wid_zr h1, wid_zr h2⟩
theorem nar_zr {a : Nat} (h : Flo.Zr Ieee.double a) : Flo.Zr Ieee.single (Flo.nar a) := by
  obtain ⟨s, p, h⟩ := h
  unfold Flo.nar FloatKind.encode FloatKind.decode
  rw [show FloatKind.f64.format = Ieee.double from rfl, h]
  exact Flo.write_zero Ieee.single s p
theorem nar_ev {a b : Nat} (h : Flo.Ev Ieee.double a b) : EvS (Flo.nar a) (Flo.nar b) := by
  rcases h with rfl | ⟨h1, h2⟩
  · exact .inl rfl
  · exact .inr ⟨nar_zr h1, nar_zr h2⟩

def EvP (s t : Nat × Nat) : Prop := EvS s.1 t.1 ∧ EvS s.2 t.2
theorem stepS_ev (m : M4) {s t : Nat × Nat} {x y : Nat} (h : EvP s t) (g : EvS x y) : EvP (stepS m s x) (stepS m t y) := by
  have w1 := wid_ev h.1
  have w2 := wid_ev h.2
  have r := Flo.Ev.refl Ieee.double
  have q := Flo.Ev.refl Ieee.single
  exact ⟨opB_add_ev .f32 (nar_ev (opB_sub_ev .f64 (opB_mul_ev .f64 w1 (r _)) (opB_mul_ev .f64 w2 (r _)))) (opB_mul_ev .f32 (q _) g),
    opB_add_ev .f32 (nar_ev (opB_add_ev .f64 (opB_mul_ev .f64 w1 (r _)) (opB_mul_ev .f64 w2 (r _)))) (opB_mul_ev .f32 (q _) g)⟩

theorem zr_zero : Flo.Zr Ieee.single 0 := ⟨false, -149, by decide⟩
theorem mul_zr' {k : FloatKind} {x y : Nat} (h : Flo.Zr k.format x) (g : Flo.IsNum k.format y) : Flo.Zr k.format (opB .mul k x y) := by
  obtain ⟨r, h1, h2⟩ := Flo.mul_zr h g
  rw [show opB .mul k x y = (k.format.mul x y).getD 0 from rfl, h1]; exact h2
theorem mul_zr'' {k : FloatKind} {x y : Nat} (h : Flo.Zr k.format y) (g : Flo.IsNum k.format x) : Flo.Zr k.format (opB .mul k x y) := by
  rw [show opB .mul k x y = (k.format.mul x y).getD 0 from rfl, Flo.mul_comm']
  exact mul_zr' h g
theorem add_zr' {k : FloatKind} {x y : Nat} (h : Flo.Zr k.format x) (g : Flo.Zr k.format y) : Flo.Zr k.format (opB .add k x y) := by
  obtain ⟨r, h1, h2⟩ := Flo.add_zr h g
  rw [show opB .add k x y = (k.format.add x y).getD 0 from rfl, h1]; exact h2
theorem sub_zr' {k : FloatKind} {x y : Nat} (h : Flo.Zr k.format x) (g : Flo.Zr k.format y) : Flo.Zr k.format (opB .sub k x y) := by
  obtain ⟨r, h1, h2⟩ := Flo.sub_zr h g
  rw [show opB .sub k x y = (k.format.sub x y).getD 0 from rfl, h1]; exact h2
theorem step_zero (m : M4) (hm : m.ok) : Flo.Zr Ieee.single (stepS m (0, 0) 0).1 ∧ Flo.Zr Ieee.single (stepS m (0, 0) 0).2 := by
  obtain ⟨n1, n2, n3, n4⟩ := hm.nums
  have w0 := wid_zr zr_zero
  have p1 := (wid_num n1).1
  have p2 := (wid_num n2).1
  exact ⟨add_zr' (k := .f32) (nar_zr (sub_zr' (k := .f64) (mul_zr' (k := .f64) w0 p1) (mul_zr' (k := .f64) w0 p2))) (mul_zr'' (k := .f32) zr_zero n3),
    add_zr' (k := .f32) (nar_zr (add_zr' (k := .f64) (mul_zr' (k := .f64) w0 p2) (mul_zr' (k := .f64) w0 p1))) (mul_zr'' (k := .f32) zr_zero n4)⟩

/-! ### a late input -/
theorem input_late (xs : List Nat) (i : Nat) : inputOf (0 :: xs) (i + 1) = inputOf xs i := by simp [inputOf]
theorem late_one (m : M4) (hm : m.ok) (xs : List Nat) : ∀ i, EvP (st1 m (inputOf (0 :: xs)) (i + 1)) (st1 m (inputOf xs) i)
  | 0 => by
    obtain ⟨h1, h2⟩ := step_zero m hm
    exact ⟨.inr ⟨h1, zr_zero⟩, .inr ⟨h2, zr_zero⟩⟩
  | i + 1 => by
    have h := stepS_ev m (late_one m hm xs i) (Flo.Ev.refl Ieee.single (inputOf xs i))
    show EvP (stepS m (st1 m (inputOf (0 :: xs)) (i + 1)) (inputOf (0 :: xs) (i + 1))) (stepS m (st1 m (inputOf xs) i) (inputOf xs i))
    rw [input_late]
    exact h
theorem fold_ev (g h : M4 → Nat × Nat) : ∀ (l : List M4) (a b : Nat), EvS a b → (∀ m ∈ l, EvP (g m) (h m)) → EvS ((l.map g).foldl (fun y s => opB .add .f32 y s.1) a) ((l.map h).foldl (fun y s => opB .add .f32 y s.1) b)
  | [], _, _, k, _ => k
  | m :: l, a, b, k, hl => fold_ev g h l _ _ (opB_add_ev .f32 k (hl m (List.mem_cons_self ..)).1) (fun m hm => hl m (List.mem_cons_of_mem _ hm))
theorem late_out (ms : List M4) (hms : ∀ m ∈ ms, m.ok) (xs : List Nat) (i : Nat) : EvS (outS (stAt ms (inputOf (0 :: xs)) (i + 2))) (outS (stAt ms (inputOf xs) (i + 1))) := by
  rw [stAt_map, stAt_map]
  exact fold_ev _ _ ms 0 0 (Flo.Ev.refl _ _) (fun m hm => late_one m (hms m hm) xs (i + 1))

/-- equal numbers compare so -/
theorem ev_order {a b : Nat} (h : EvS a b) (ha : Sm a) : (FloatKind.f32.format.order a b == some .eq) = true := by
  rw [show FloatKind.f32.format = Ieee.single from rfl, beq_iff_eq]
  rcases h with rfl | ⟨⟨s, p, h1⟩, ⟨t, q, h2⟩⟩
  · exact (Flo.order_num Ieee.single a a ha ha).2.1.2 rfl
  · refine (Flo.order_num Ieee.single a b ⟨_, _, _, h1⟩ ⟨_, _, _, h2⟩).2.1.2 ?_
    rw [Flo.V_eq h1, Flo.V_eq h2, Flo.val_zero, Flo.val_zero]

/-! ### the factor 1 -/
theorem one_read : Ieee.single.read 1065353216 = .number false 8388608 (-23) := by decide
theorem product_one (s : Bool) (m : Nat) (p : Int) : Ieee.Datum.product (.number s m p) (.number false 8388608 (-23)) = some (.number s (m * 8388608) (p + -23)) := by
  simp only [Ieee.Datum.product, Bool.xor_false]
theorem mul_one_bits {q : Nat} {s : Bool} {m : Nat} {p : Int} (h : Ieee.single.read q = .number s m p) : Ieee.single.mul q 1065353216 = some (Ieee.single.write (.number s (m * 8388608) (p + -23))) := by
  unfold Ieee.Format.mul
  rw [h, one_read, product_one]
  rfl
theorem opB_mul_of {x y r : Nat} (h : Ieee.single.mul x y = some r) : opB .mul .f32 x y = r := by
  have h2 : floatBits .mul .f32 x y = some r := h
  unfold opB; rw [h2]; rfl
theorem scale_same (s : Bool) (m : Nat) (p : Int) (hm : m ≠ 0) : Ieee.single.write (.number s (m * 8388608) (p + -23)) = Ieee.single.write (.number s m p) := by
  refine Flo.write_same Ieee.single s _ _ _ _ (by omega) ?_
  have := Flo.pw_neg_mul 23
  rw [show Flo.pw 23 = 8388608 from Flo.pw_nat 23] at this
  rw [Flo.pw_add, Rat.natCast_mul]
  have e2 : ((8388608 : Nat) : Rat) = 8388608 := rfl
  rw [e2]
  have h3 : (m : Rat) * Flo.pw p * (Flo.pw (-23) * 8388608) = (m : Rat) * Flo.pw p := by rw [this]; grind
  grind
theorem scale_zero (s : Bool) (p q : Int) : Ieee.single.write (.number s 0 p) = Ieee.single.write (.number s 0 q) := by
  have z0 : ∀ j : Int, Ieee.single.write (.number s 0 j) = Ieee.single.word s 0 := fun j => by simp only [Ieee.Format.write, Ieee.Format.nearest, if_true]
  rw [z0, z0]
theorem bin_inf : Ieee.single.binade ≤ Ieee.single.infRung := by decide
theorem mul_one_read {q : Nat} (h : Sm q) : Ieee.single.read (opB .mul .f32 q 1065353216) = Ieee.single.read q := by
  obtain ⟨s, m, p, h⟩ := h
  rw [opB_mul_of (mul_one_bits h)]
  have k := Flo.read_back Ieee.single bin_inf h
  by_cases hm : m = 0
  · subst hm
    rw [Nat.zero_mul, scale_zero s (p + -23) p, k, h]
  · rw [scale_same s m p hm, k, h]
theorem wid_read_eq {a b : Nat} (h : Ieee.single.read a = Ieee.single.read b) : wid a = wid b := by
  unfold wid FloatKind.encode FloatKind.decode
  rw [show FloatKind.f32.format = Ieee.single from rfl, h]
theorem step_one (m : M4) (hm : m.ok) (s : Nat × Nat) (x : Nat) : stepS (dampM 1065353216 m) s x = stepS m s x := by
  obtain ⟨n1, n2, n3, n4⟩ := hm.nums
  have e1 := wid_read_eq (mul_one_read n1)
  have e2 := wid_read_eq (mul_one_read n2)
  unfold stepS mulSre mulSim dampM
  simp only [e1, e2]
theorem stepAll_one (ms : List M4) (hms : ∀ m ∈ ms, m.ok) (x : Nat) : ∀ ss, stepAll (ms.map (dampM 1065353216)) ss x = stepAll ms ss x := by
  unfold stepAll
  induction ms with
  | nil => intro ss; rfl
  | cons m l ih =>
    intro ss
    cases ss with
    | nil => rfl
    | cons s ss =>
      simp only [List.map_cons, List.zipWith_cons_cons]
      rw [step_one m (hms m (List.mem_cons_self ..)), ih (fun m hm => hms m (List.mem_cons_of_mem _ hm))]
theorem tAt_one (ms : List M4) (hms : ∀ m ∈ ms, m.ok) (f : Nat) (x : Nat → Nat) : ∀ i, tAt ms (ms.map (dampM 1065353216)) f x i = stAt ms x i
  | 0 => rfl
  | i + 1 => by
    unfold tAt stAt
    rw [tAt_one ms hms f x i]
    split
    · rw [stepAll_one ms hms]
    · rfl
theorem stAt_one (ms : List M4) (hms : ∀ m ∈ ms, m.ok) (x : Nat → Nat) : ∀ i, stAt (ms.map (dampM 1065353216)) x i = stAt ms x i
  | 0 => by simp [stAt]
  | i + 1 => by
    unfold stAt
    rw [stAt_one ms hms x i, stepAll_one ms hms]
theorem tAt_never (ms ds : List M4) (f : Nat) (x : Nat → Nat) : ∀ i, i ≤ f → tAt ms ds f x i = stAt ms x i
  | 0, _ => rfl
  | i + 1, h => by
    unfold tAt stAt
    rw [tAt_never ms ds f x i (by omega), if_neg (by omega)]
theorem tAt_once (ms ds : List M4) (hl : ds.length = ms.length) (x : Nat → Nat) : ∀ i, tAt ms ds 0 x i = stAt ds x i
  | 0 => by simp [tAt, stAt, hl, List.map_const']
  | i + 1 => by
    unfold tAt stAt
    rw [tAt_once ms ds hl x i, if_pos (Nat.zero_le _)]

theorem touch_one (ms : List M4) (hms : ∀ m ∈ ms, m.ok) (f n : Nat) (x : Nat → Nat) (h1 : RingOk ms x n) (h2 : RingOk (ms.map (dampM 1065353216)) x n) :
    TouchOk ms (ms.map (dampM 1065353216)) f x n ∧ touchS ms (ms.map (dampM 1065353216)) f x n = ringS ms x n := by
  constructor
  · intro i hi
    rw [tAt_one ms hms, tAt_one ms hms]
    refine ⟨?_, (h1 i hi).2⟩
    split
    · have h := (h2 i hi).1
      rw [stAt_one ms hms] at h
      exact h
    · exact (h1 i hi).1
  · unfold touchS ringS
    simp only [tAt_one ms hms]
theorem touch_never (ms ds : List M4) (n : Nat) (x : Nat → Nat) (h1 : RingOk ms x n) : TouchOk ms ds n x n ∧ touchS ms ds n x n = ringS ms x n := by
  constructor
  · intro i hi
    rw [tAt_never ms ds n x i (by omega), tAt_never ms ds n x (i + 1) (by omega), if_neg (by omega)]
    exact h1 i hi
  · unfold touchS ringS
    apply List.map_congr_left
    intro i hi
    rw [tAt_never ms ds n x (i + 1) (by have := List.mem_range.1 hi; omega)]
theorem touch_once (ms ds : List M4) (hl : ds.length = ms.length) (n : Nat) (x : Nat → Nat) (h1 : RingOk ds x n) : TouchOk ms ds 0 x n ∧ touchS ms ds 0 x n = ringS ds x n := by
  constructor
  · intro i hi
    rw [tAt_once ms ds hl, tAt_once ms ds hl, if_pos (Nat.zero_le _)]
    exact h1 i hi
  · unfold touchS ringS
    simp only [tAt_once ms ds hl]

/-! ### where nothing overflows -/
theorem ring_small (ms : List M4) (hms : ∀ m ∈ ms, m.ok) (q n : Nat) (hq : ms.length = q) (hq5 : q ≤ 5) (hn : n ≤ 100) (xs : List Nat) (hxs : xs.length ≤ 20) (hsm : ∀ x ∈ xs, Sm x ∧ Flo.Ab (S x) 5) :
    RingOk ms (inputOf xs) n ∧ ∀ x ∈ ringS ms (inputOf xs) n, Sm x := by
  have hG : rs gm ms ≤ 10240 ∧ 0 ≤ rs gm ms := by
    have h1 := rs_max gm 2048 ms (fun m hm => (gain_ok m (hms m hm)).2.2)
    have h2 : (ms.length : Rat) ≤ 5 := by
      have : ((ms.length : Nat) : Rat) ≤ ((5 : Nat) : Rat) := by exact_mod_cast (by omega : ms.length ≤ 5)
      exact this
    exact ⟨by grind, rs_nonneg gm _ (fun m _ => gm_nonneg m)⟩
  have hX : xsum xs ≤ 100 := by
    have h1 := xsum_le xs 5 (fun x hx => ra_le (hsm x hx).2)
    have h2 : ((xs.length : Nat) : Rat) ≤ ((20 : Nat) : Rat) := by exact_mod_cast hxs
    have h3 : ((20 : Nat) : Rat) = 20 := rfl
    grind
  have hgx : rs gm ms * xsum xs ≤ 1024000 := by
    have h1 := Rat.mul_le_mul_of_nonneg_right hG.1 (xsum_nonneg xs)
    grind
  have hP100 : (1024000 : Rat) ≤ Flo.pw 100 := by
    have h1 : Flo.pw 40 ≤ Flo.pw 100 := Flo.pw_le (by omega)
    rw [show Flo.pw 40 = 1099511627776 from Flo.pw_nat 40] at h1
    grind
  have hD := drift_ok ms hms (inputOf xs) n q hq (by omega) (by omega) (by
      intro i _
      by_cases hi : i < xs.length
      · have e : xs[i]? = some xs[i] := List.getElem?_eq_getElem hi
        rw [show inputOf xs i = xs[i] from by unfold inputOf; rw [List.getD_eq_getElem?_getD, e]; rfl]
        exact (hsm _ (List.getElem_mem hi)).1
      · rw [show inputOf xs i = 0 from by unfold inputOf; rw [List.getD_eq_getElem?_getD, List.getElem?_eq_none (by omega)]; rfl]
        exact zero_single.1) (xsum xs) (fun i _ => by rw [psum_xsum]; exact xsum_take_le _ i) (xsum_nonneg _) (by grind)
  refine ⟨hD.1, fun x hx => ?_⟩
  obtain ⟨i, hi, rfl⟩ := List.mem_map.1 hx
  exact (hD.2.2.1 i (List.mem_range.1 hi)).1

/-! ### the factors -/
def facB (z : Nat) : Nat := opB .quo .f32 (floatOfInt .f32 (z : Int)) 1132396544
def facOk (z : Nat) : Bool := (floatBits .quo .f32 (floatOfInt .f32 (z : Int)) 1132396544).isSome && fin .f32 (facB z) &&
  (FloatKind.f32.format.order (facB z) 0 == some .gt || FloatKind.f32.format.order (facB z) 0 == some .eq) && (FloatKind.f32.format.order (facB z) 1065353216 == some .lt || FloatKind.f32.format.order (facB z) 1065353216 == some .eq)
set_option maxRecDepth 100000 in
theorem fac_all : ((List.range 256).all facOk) = true := by decide +kernel
theorem fac_ok (z : Nat) (hz : z ≤ 255) : Calm .quo .f32 (floatOfInt .f32 (z : Int)) 1132396544 ∧ Sm (facB z) ∧ 0 ≤ S (facB z) ∧ S (facB z) ≤ 1 := by
  have h := fac_all
  rw [List.all_eq_true] at h
  have h := h z (List.mem_range.2 (by omega))
  unfold facOk at h
  simp only [Bool.and_eq_true] at h
  obtain ⟨⟨⟨h1, h2⟩, h3⟩, h4⟩ := h
  obtain ⟨r, hr⟩ := Option.isSome_iff_exists.1 h1
  have sm := Sm_of h2
  have n1 : Sm 1065353216 ∧ S 1065353216 = 1 := by
    have h : Ieee.single.read 1065353216 = .number false 8388608 (-23) := by decide
    refine ⟨⟨_, _, _, h⟩, ?_⟩
    rw [show S 1065353216 = _ from Flo.V_eq h]
    unfold Flo.val
    have := Flo.pw_neg_mul 23
    rw [show Flo.pw 23 = 8388608 from Flo.pw_nat 23] at this
    simp only [Bool.false_eq_true, if_false]
    have e2 : ((8388608 : Nat) : Rat) = 8388608 := rfl
    rw [e2]; grind
  have o0 := Flo.order_num Ieee.single (facB z) 0 sm zero_single.1
  have o1 := Flo.order_num Ieee.single (facB z) 1065353216 sm n1.1
  have z0 : Flo.V Ieee.single 0 = 0 := zero_single.2
  have z1 : Flo.V Ieee.single 1065353216 = 1 := n1.2
  rw [show FloatKind.f32.format = Ieee.single from rfl, Bool.or_eq_true, beq_iff_eq, beq_iff_eq, o0.2.2, o0.2.1, z0] at h3
  rw [show FloatKind.f32.format = Ieee.single from rfl, Bool.or_eq_true, beq_iff_eq, beq_iff_eq, o1.1, o1.2.1, z1] at h4
  have h3' : 0 < S (facB z) ∨ S (facB z) = 0 := h3
  have h4' : S (facB z) < 1 ∨ S (facB z) = 1 := h4
  exact ⟨(Calm.of hr).1, sm, by grind, by grind⟩

end Go.Proofs.Ytlhhcchncobmhaa

/- One step of a body whose numbers may be infinite or NaN: the states as told, the output but for the bits of NaN; and any step at all.
   Conditions: those that each statement names. -/
namespace Go.Proofs.Ytlhhcchncobmhaa
set_option linter.unusedSimpArgs false
set_option linter.unusedVariables false
open Go Go.RowKit

/-- the output, but for the bits of NaN -/
def outA (ss : List (Nat × Nat)) : Option Nat := ss.foldl (fun o s => fA .add .f32 o (fab .f32 s.1)) (fab .f32 0)
theorem outA_take (ss : List (Nat × Nat)) (k : Nat) (s : Nat × Nat) (h : ss[k]? = some s) : outA (ss.take (k + 1)) = fA .add .f32 (outA (ss.take k)) (fab .f32 s.1) := by
  obtain ⟨hk, he⟩ := List.getElem?_eq_some_iff.1 h
  unfold outA
  rw [List.take_succ_eq_append_getElem hk, List.foldl_append, he]; rfl
theorem cellsC_at {ss : List (Nat × Nat)} {k : Nat} {s : Nat × Nat} (h : ss[k]? = some s) : (cellsC ss)[k]? = some (.complex .f32 s.1 s.2) := by unfold cellsC; rw [List.getElem?_map, h]; rfl
theorem cellsC_set (ss : List (Nat × Nat)) (k : Nat) (s : Nat × Nat) : (cellsC ss).set k (.complex .f32 s.1 s.2) = cellsC (ss.set k s) := by unfold cellsC; rw [List.map_set]

def StepsA (gs bs n : Nat) (ss' : List (Nat × Nat)) (w : World) (e : Ending) (w' : World) : Prop :=
  (∃ y, e = .returned (.float .f32 y) ∧ fab .f32 y = outA ss') ∧ w'.ownsRow bs 59 1 (.slice (some ⟨gs, 0, none⟩) n n) n (cellsC ss') ∧ w.grownBy w' (some gs)
def StepsAI (ms : List M4) (ss : List (Nat × Nat)) (x gs bs n : Nat) (w : World) (y i : Value) (wr : World) : Prop :=
  ∃ k b : Nat, k ≤ n ∧ i = .int .i64 (k : Int) ∧ y = .float .f32 b ∧ fab .f32 b = outA ((stepAll ms ss x).take k) ∧ wr.ownsRow bs 59 1 (.slice (some ⟨gs, 0, none⟩) n n) n (cellsC (mixed ms ss x k)) ∧ w.grownBy wr (some gs)
def StepsN (gs bs n : Nat) (w : World) (e : Ending) (w' : World) : Prop :=
  ∃ y, e = .returned (.float .f32 y) ∧ ∃ sr : List (Nat × Nat), sr.length = n ∧ w'.ownsRow bs 59 1 (.slice (some ⟨gs, 0, none⟩) n n) n (cellsC sr) ∧ w.grownBy w' (some gs)
def StepsNI (gs bs n : Nat) (w : World) (y i : Value) (wr : World) : Prop :=
  ∃ (k b : Nat) (sr : List (Nat × Nat)), k ≤ n ∧ i = .int .i64 (k : Int) ∧ y = .float .f32 b ∧ sr.length = n ∧ wr.ownsRow bs 59 1 (.slice (some ⟨gs, 0, none⟩) n n) n (cellsC sr) ∧ w.grownBy wr (some gs)

set_option maxHeartbeats 1600000 in
theorem stepStates_fab (ms : List M4) (hms : ∀ m ∈ ms, m.ok) (ss : List (Nat × Nat)) (x n gs bs bm : Nat) (v : Value) (hn : ms.length = n) (hss : ss.length = n) (hn16 : n ≤ 16) (w : World)
    (hm : w.ownsRow bm 61 2 v n (cellsM ms)) (hs : w.ownsRow bs 59 1 (.slice (some ⟨gs, 0, none⟩) n n) n (cellsC ss)) (hne : v.ownBlock ≠ some gs)
    (hok : ∀ (k : Nat) m s, ms[k]? = some m → ss[k]? = some s → StepOk m s x) :
    Calls Try.prog 59 #[v, .slice (some ⟨gs, 0, none⟩) n n, .float .f32 x] w (StepsA gs bs n (stepAll ms ss x) w) := by
  obtain ⟨va, vc, rfl⟩ := own_shape' hm
  have Hm := Lib.hid hm
  have Hs := Lib.hid hs
  have Hok := Lib.hid hok
  have Hms := Lib.hid hms
  have Hn := Lib.hid hn
  have Hss := Lib.hid hss
  clear hm hs hok hms hn hss
  go_enter Try.func59, Try.ntmps59
  go_wp2_with fail
  go_loopw [7, 12] (fun y i wr => StepsAI ms ss x gs bs n w y i wr) (fun _ i _ => n - (intOf i).toNat)
  case atStart => exact ⟨0, 0, by omega, rfl, rfl, by rfl, by rw [show mixed ms ss x 0 = ss from by simp [mixed]]; exact Hs.out, World.grownBy.refl _ _⟩
  case round =>
    obtain ⟨k, y, hk, rfl, rfl, hy, hown, hgr⟩ := hrel
    have Hy := Lib.hid hy
    have Hown := Lib.hid hown
    have Hgr := Lib.hid hgr
    clear hown hgr hy
    by_cases hlt : k < n
    · obtain ⟨m, hmk⟩ : ∃ m, ms[k]? = some m := ⟨ms[k]'(by rw [Hn.out]; exact hlt), List.getElem?_eq_getElem _⟩
      obtain ⟨s, hsk⟩ : ∃ s, ss[k]? = some s := ⟨ss[k]'(by rw [Hss.out]; exact hlt), List.getElem?_eq_getElem _⟩
      have Hmr := Lib.hid (Hm.out.kept Hgr.out (.inr hne))
      obtain ⟨g, cap, hv, hcap, hmax, hgs, e1, e2⟩ := own_mode Hmr.out hmk Hn.out.symm
      cases hv
      have hgne : g ≠ gs := fun e => hne (by rw [e]; rfl)
      have hst : (cellsC (mixed ms ss x k))[k]? = some (.complex .f32 s.1 s.2) := mixed_at ms ss x k s (by rw [Hn.out, Hss.out]) hsk
      have e3 := Hown.out.cellAt k (by omega)
      rw [hst] at e3
      have e4 := Hown.out.frozenAt k
      have Hmk := Lib.hid hmk
      have Hsk := Lib.hid hsk
      clear hmk hsk hst
      have hmm : maxLen = 9223372036854775807 := rfl
      unfold maxLen at hmax
      clear hmm
      go_upto_region 5 with fail
      have Hmode := Lib.hid (HasMode.new wr 61 m.pr m.pi m.gr m.gi)
      have Hown4 := Lib.hid (Hown.out.alloc (.cells #[.complex .f32 m.pr m.pi, .complex .f32 m.gr m.gi] 61 (0, 0)))
      have Hgr4 := Lib.hid (Hgr.out.trans' (World.grownBy_alloc wr (.cells #[.complex .f32 m.pr m.pi, .complex .f32 m.gr m.gi] 61 (0, 0)) (some gs)))
      clear e1 e2 e3 e4
      go_cut [] (fun wx => wx.ownsRow bs 59 1 (.slice (some ⟨gs, 0, none⟩) n n) n (cellsC (mixed ms ss x (k + 1))) ∧ w.grownBy wx (some gs))
      case first =>
        obtain ⟨w4, hw4⟩ : ∃ w4, w4 = wr.alloc (.cells #[.complex .f32 m.pr m.pi, .complex .f32 m.gr m.gi] 61 (0, 0)) := ⟨_, rfl⟩
        rw [← hw4] at Hmode Hown4 Hgr4
        rw [← hw4]
        clear hw4
        obtain ⟨l0, l1, l2, l3, l4⟩ := Hmode.out
        have e3 := Hown4.out.cellAt k (by omega)
        rw [mixed_at ms ss x k s (by rw [Hn.out, Hss.out]) Hsk.out] at e3
        have e4 := Hown4.out.frozenAt k
        have hgs4 : gs < w4.heap.size := (Hown4.out.lt gs rfl).2
        have Hst := Lib.hid (Hok.out k m s Hmk.out Hsk.out)
        have Hmo := Lib.hid (Hms.out m (List.mem_of_getElem? Hmk.out))
        go_region_with (first
          | (go_at_call 95; refine (stepMode_ok m Hmo.out s x _ Hst.out).mono ?_; rintro e w5 ⟨rfl, n5⟩; have k5 := (n5.cell (p := ⟨gs, k, none⟩) hgs4).trans e3; have f5 := (n5.frozen (p := ⟨gs, k, none⟩) hgs4).trans e4))
        all_goals
          have hfin := And.intro ((own_nw (w := w4.drew) Hown4.out n5).stored k (.complex .f32 (stepS m s x).1 (stepS m s x).2)).1 ((Hgr4.out.trans' ⟨n5.os, n5.tape, n5.output, n5.size, fun q hq _ => n5.block q hq (by simp)⟩).trans' ((own_nw (w := w4.drew) Hown4.out n5).stored k (.complex .f32 (stepS m s x).1 (stepS m s x).2)).2)
          rw [mixed_step ms ss x k m s Hmk.out Hsk.out] at hfin
          have Hfin := Lib.hid hfin
          clear hfin
          go_wp2_with fail
          go_meet
          exact Hfin.out
      case rest =>
        obtain ⟨hown6, hgr6⟩ := hcut
        have e6 := hown6.cellAt k (by omega)
        rw [mixed_after ms ss x k m s Hmk.out Hsk.out] at e6
        have Hown6 := Lib.hid hown6
        have Hgr6 := Lib.hid hgr6
        clear hown6 hgr6
        have Hsk2 := Lib.hid (outA_take _ k _ (stepAll_at ms ss x k m s Hmk.out Hsk.out))
        go_wp2_with fail
        go_roundw
        case rel => exact ⟨k + 1, _, by omega, by rw [show ((k + 1 : Nat) : Int) = (k : Int) + 1 from by omega], rfl, by rw [Hsk2.out, fab_fres, Hy.out], own_nw Hown6.out ((Nw.refl _).draw _), Hgr6.out.trans' ⟨rfl, rfl, rfl, Nat.le_refl _, fun _ _ _ => rfl⟩⟩
        case measure => simp only [intOf]; omega
    · obtain rfl : k = n := by omega
      have Hfull := Lib.hid (mixed_full ms ss x (Hn.out.trans Hss.out.symm))
      have Hlen := Lib.hid (show (stepAll ms ss x).length = k from by simp [stepAll, Hn.out, Hss.out])
      go_wp2_with fail
      go_ret
      refine ⟨⟨y, rfl, by have h := Hy.out; rwa [List.take_of_length_le (Nat.le_of_eq Hlen.out)] at h⟩, ?_, Hgr.out⟩
      have := Hown.out
      rw [show mixed ms ss x k = stepAll ms ss x from by rw [← Hfull.out, Hn.out]] at this
      exact this

/-! ### whatever the numbers -/
def AnyC (k : FloatKind) (w : World) (e : Ending) (w' : World) : Prop := ∃ r s, e = .returned (.complex k r s) ∧ Nw w w'
theorem nw_nat (w : World) (n : Nat) : Nw w (w.drewN n) := (Nw.refl w).draw n
theorem widenN_any (a b : Nat) (w : World) : Calls Try.prog 79 #[.complex .f32 a b] w (AnyC .f64 w) := by
  go_enter Try.func79, Try.ntmps79
  go_wp2
  all_goals (go_ret; exact ⟨_, _, rfl, nw_nat _ _⟩)
theorem narrowN_any (a b : Nat) (w : World) : Calls Try.prog 85 #[.complex .f64 a b] w (AnyC .f32 w) := by
  go_enter Try.func85, Try.ntmps85
  go_wp2
  all_goals (go_ret; exact ⟨_, _, rfl, nw_nat _ _⟩)
theorem mulD_any (a b c d : Nat) (w : World) : Calls Try.prog 22 #[.complex .f64 a b, .complex .f64 c d] w (AnyC .f64 w) := by
  go_enter Try.func22, Try.ntmps22
  go_wp2
  all_goals (go_ret; exact ⟨_, _, rfl, nw_nat _ _⟩)
theorem scaleS_any (a b x : Nat) (w : World) : Calls Try.prog 94 #[.complex .f32 a b, .float .f32 x] w (AnyC .f32 w) := by
  go_enter Try.func94, Try.ntmps94
  go_wp2
  all_goals (go_ret; exact ⟨_, _, rfl, nw_nat _ _⟩)
theorem mulS_any (a b c d : Nat) (w : World) : Calls Try.prog 111 #[.complex .f32 a b, .complex .f32 c d] w (AnyC .f32 w) := by
  go_enter Try.func111, Try.ntmps111
  go_wp2_with fail
  refine (widenN_any _ _ _).mono ?_
  rintro e w1 ⟨p, q, rfl, n1⟩
  go_wp2_with fail
  refine (widenN_any _ _ _).mono ?_
  rintro e w2 ⟨p2, q2, rfl, n2⟩
  go_wp2_with fail
  refine (mulD_any _ _ _ _ _).mono ?_
  rintro e w3 ⟨p3, q3, rfl, n3⟩
  go_wp2_with fail
  refine (narrowN_any _ _ _).mono ?_
  rintro e w4 ⟨p4, q4, rfl, n4⟩
  have N4 := Lib.hid (((n1.trans n2).trans n3).trans n4)
  go_wp2_with fail
  go_ret
  exact ⟨_, _, rfl, N4.out⟩
theorem stepMode_any (m : M4) (s : Nat × Nat) (x : Nat) (w : World) :
    Calls Try.prog 95 #[.agg #[.complex .f32 m.pr m.pi, .complex .f32 m.gr m.gi], .complex .f32 s.1 s.2, .float .f32 x] w (AnyC .f32 w) := by
  go_enter Try.func95, Try.ntmps95
  have H0 := Lib.hid (HasMode.new w 61 m.pr m.pi m.gr m.gi)
  have N0 := Lib.hid ((Nw.refl w).alloc (.cells #[.complex .f32 m.pr m.pi, .complex .f32 m.gr m.gi] 61 (0, 0)))
  go_wp2_with fail
  generalize w.alloc (.cells #[.complex .f32 m.pr m.pi, .complex .f32 m.gr m.gi] 61 (0, 0)) = w0 at *
  obtain ⟨l0, l1, l2, l3, l4⟩ := H0.out
  go_region_with (first
    | (go_at_call 111; refine (mulS_any _ _ _ _ _).mono ?_; rintro e w1 ⟨p, q, rfl, n1⟩; first | (have m1 := n1.cell (p := ⟨w.heap.size, 1, none⟩) l0; have m2 := n1.cell (p := ⟨w.heap.size, 0, none⟩) l0) | skip)
    | (go_at_call 94; refine (scaleS_any _ _ _ _).mono ?_; rintro e w2 ⟨r, t, rfl, n2⟩; first | (have k1 := n2.cell (p := ⟨w.heap.size, 1, none⟩) l0; have k2 := n2.cell (p := ⟨w.heap.size, 0, none⟩) l0) | skip))
  all_goals
    go_wp2_with fail
    go_ret
    refine ⟨_, _, rfl, ?_⟩
    first
      | exact ((N0.out.draw 1).trans n1).trans n2
      | exact ((N0.out.draw 1).trans n2).trans n1
      | exact (((N0.out.draw 1).trans n1).trans n2).draw _
      | exact (((N0.out.draw 1).trans n2).trans n1).draw _
      | exact ((((N0.out.draw 1).trans n1).trans n2).draw _).draw _
      | exact ((((N0.out.draw 1).trans n2).trans n1).draw _).draw _

set_option maxHeartbeats 1600000 in
theorem stepStates_any (ms : List M4) (ss : List (Nat × Nat)) (x n gs bs bm : Nat) (v : Value) (hn : ms.length = n) (hss : ss.length = n) (hn16 : n ≤ 16) (w : World)
    (hm : w.ownsRow bm 61 2 v n (cellsM ms)) (hs : w.ownsRow bs 59 1 (.slice (some ⟨gs, 0, none⟩) n n) n (cellsC ss)) (hne : v.ownBlock ≠ some gs)
     :
    Calls Try.prog 59 #[v, .slice (some ⟨gs, 0, none⟩) n n, .float .f32 x] w (StepsN gs bs n w) := by
  obtain ⟨va, vc, rfl⟩ := own_shape' hm
  have Hm := Lib.hid hm
  have Hs := Lib.hid hs
  have Hn := Lib.hid hn
  clear hm hs hn
  go_enter Try.func59, Try.ntmps59
  go_wp2_with fail
  go_loopw [7, 12] (fun y i wr => StepsNI gs bs n w y i wr) (fun _ i _ => n - (intOf i).toNat)
  case atStart => exact ⟨0, 0, ss, by omega, rfl, rfl, hss, Hs.out, World.grownBy.refl _ _⟩
  case round =>
    obtain ⟨k, y, sr, hk, rfl, rfl, hsr, hown, hgr⟩ := hrel
    have Hsr := Lib.hid hsr
    have Hown := Lib.hid hown
    have Hgr := Lib.hid hgr
    clear hown hgr hsr
    by_cases hlt : k < n
    · obtain ⟨m, hmk⟩ : ∃ m, ms[k]? = some m := ⟨ms[k]'(by rw [Hn.out]; exact hlt), List.getElem?_eq_getElem _⟩
      obtain ⟨s, hsk⟩ : ∃ s, sr[k]? = some s := ⟨sr[k]'(by rw [Hsr.out]; exact hlt), List.getElem?_eq_getElem _⟩
      have Hmr := Lib.hid (Hm.out.kept Hgr.out (.inr hne))
      obtain ⟨g, cap, hv, hcap, hmax, hgs, e1, e2⟩ := own_mode Hmr.out hmk Hn.out.symm
      cases hv
      have hgne : g ≠ gs := fun e => hne (by rw [e]; rfl)
      have hst : (cellsC sr)[k]? = some (.complex .f32 s.1 s.2) := cellsC_at hsk
      have e3 := Hown.out.cellAt k (by omega)
      rw [hst] at e3
      have e4 := Hown.out.frozenAt k
      have Hmk := Lib.hid hmk
      have Hsk := Lib.hid hsk
      clear hmk hsk hst
      have hmm : maxLen = 9223372036854775807 := rfl
      unfold maxLen at hmax
      clear hmm
      go_upto_region 5 with fail
      have Hmode := Lib.hid (HasMode.new wr 61 m.pr m.pi m.gr m.gi)
      have Hown4 := Lib.hid (Hown.out.alloc (.cells #[.complex .f32 m.pr m.pi, .complex .f32 m.gr m.gi] 61 (0, 0)))
      have Hgr4 := Lib.hid (Hgr.out.trans' (World.grownBy_alloc wr (.cells #[.complex .f32 m.pr m.pi, .complex .f32 m.gr m.gi] 61 (0, 0)) (some gs)))
      clear e1 e2 e3 e4
      go_cut [] (fun wx => ∃ sr', sr'.length = n ∧ wx.ownsRow bs 59 1 (.slice (some ⟨gs, 0, none⟩) n n) n (cellsC sr') ∧ w.grownBy wx (some gs))
      case first =>
        obtain ⟨w4, hw4⟩ : ∃ w4, w4 = wr.alloc (.cells #[.complex .f32 m.pr m.pi, .complex .f32 m.gr m.gi] 61 (0, 0)) := ⟨_, rfl⟩
        rw [← hw4] at Hmode Hown4 Hgr4
        rw [← hw4]
        clear hw4
        obtain ⟨l0, l1, l2, l3, l4⟩ := Hmode.out
        have e3 := Hown4.out.cellAt k (by omega)
        rw [cellsC_at Hsk.out] at e3
        have e4 := Hown4.out.frozenAt k
        have hgs4 : gs < w4.heap.size := (Hown4.out.lt gs rfl).2
        go_region_with (first
          | (go_at_call 95; refine (stepMode_any m s x _).mono ?_; rintro e w5 ⟨r, q, rfl, n5⟩; have k5 := (n5.cell (p := ⟨gs, k, none⟩) hgs4).trans e3; have f5 := (n5.frozen (p := ⟨gs, k, none⟩) hgs4).trans e4))
        all_goals
          have hfin := And.intro ((own_nw (w := w4.drew) Hown4.out n5).stored k (.complex .f32 r q)).1 ((Hgr4.out.trans' ⟨n5.os, n5.tape, n5.output, n5.size, fun q hq _ => n5.block q hq (by simp)⟩).trans' ((own_nw (w := w4.drew) Hown4.out n5).stored k (.complex .f32 r q)).2)
          rw [cellsC_set sr k (r, q)] at hfin
          have Hfin := Lib.hid hfin
          clear hfin
          go_wp2_with fail
          go_meet
          exact ⟨_, by rw [List.length_set]; exact Hsr.out, Hfin.out.1, Hfin.out.2⟩
      case rest =>
        obtain ⟨sr', hsr', hown6, hgr6⟩ := hcut
        have Hsr6 := Lib.hid hsr'
        obtain ⟨s', hsk'⟩ : ∃ s', sr'[k]? = some s' := ⟨sr'[k]'(by rw [hsr']; exact hlt), List.getElem?_eq_getElem _⟩
        have e6 := hown6.cellAt k (by omega)
        rw [cellsC_at hsk'] at e6
        clear hsk' hsr'
        have Hown6 := Lib.hid hown6
        have Hgr6 := Lib.hid hgr6
        clear hown6 hgr6
        go_wp2_with fail
        go_roundw
        case rel => exact ⟨k + 1, _, sr', by omega, by rw [show ((k + 1 : Nat) : Int) = (k : Int) + 1 from by omega], rfl, Hsr6.out, own_nw Hown6.out ((Nw.refl _).draw _), Hgr6.out.trans' ⟨rfl, rfl, rfl, Nat.le_refl _, fun _ _ _ => rfl⟩⟩
        case measure => simp only [intOf]; omega
    · obtain rfl : k = n := by omega
      go_wp2_with fail
      go_ret
      exact ⟨_, rfl, sr, Hsr.out, Hown.out, Hgr.out⟩

end Go.Proofs.Ytlhhcchncobmhaa

/- A bow's first ten steps in plain numbers: nothing overflows; and one step behind them, which may be infinite, but is the same each time.
   Conditions: those that each statement names. -/
namespace Go.Proofs.Ytlhhcchncobmhaa
set_option linter.unusedSimpArgs false
set_option linter.unusedVariables false
open Go Go.RowKit

theorem calm_some {o : BinOp} {k : FloatKind} {x y : Nat} (h : floatBits o k x y ≠ none) : Calm o k x y := by
  unfold Calm opB
  cases hb : floatBits o k x y with
  | some r => rfl
  | none => exact absurd hb h
theorem calm_mul_num (a b : Nat) (ha : Sm a) (hb : Sm b) : Calm .mul .f32 a b := by
  obtain ⟨s, m, i, ha⟩ := ha
  obtain ⟨t, n, j, hb⟩ := hb
  refine calm_some ?_
  show Ieee.single.mul a b ≠ none
  unfold Ieee.Format.mul
  rw [ha, hb]
  simp [Ieee.Datum.product]
theorem calm_add_num (a b : Nat) (ha : Sm a) (hb : (FloatKind.f32.decode b).isNaN = false) : Calm .add .f32 a b := by
  obtain ⟨s, m, i, ha⟩ := ha
  refine calm_some ?_
  show Ieee.single.add a b ≠ none
  unfold Ieee.Format.add
  unfold FloatKind.decode at hb
  rw [ha]
  cases hr : Ieee.single.read b with
  | nan t f => rw [show FloatKind.f32.format.read b = _ from hr] at hb; simp [Ieee.Datum.isNaN] at hb
  | infinity t => simp [Ieee.Datum.sum]
  | number t n j => simp [Ieee.Datum.sum]

/-- the product of a state and a pole -/
structure ProdOk (m : M4) (s : Nat × Nat) (T : Rat) : Prop where
  p1 : ∃ e D K, PartOk .sub s.1 m.pr s.2 m.pi e D K
  p2 : ∃ e D K, PartOk .add s.1 m.pi s.2 m.pr e D K
  n1 : Sm (mulSre s.1 s.2 m.pr m.pi)
  n2 : Sm (mulSim s.1 s.2 m.pr m.pi)
  b1 : Flo.Ab (S (mulSre s.1 s.2 m.pr m.pi)) (5 * T + 1)
  b2 : Flo.Ab (S (mulSim s.1 s.2 m.pr m.pi)) (5 * T + 1)
theorem prod_near (D T v es : Rat) (hT : 0 ≤ T) (hD : D = 4 * T) (ve : v * 16777216 = 1) (es1 : es ≤ 1 / 1048576) : D + (D * v + (D + 2 * T) * v / 16777216 + 2 * es) ≤ 5 * T + 1 := by
  have hv : v = 1 / 16777216 := by grind
  subst hv; subst hD
  grind
theorem prod_ok (m : M4) (hm : m.ok) (s : Nat × Nat) (h1 : Sm s.1) (h2 : Sm s.2) (T : Rat) (r1 : Flo.Ab (S s.1) T) (r2 : Flo.Ab (S s.2) T) (hT : T ≤ Flo.pw 118) : ProdOk m s T := by
  obtain ⟨n1, n2, n3, n4⟩ := hm.nums
  obtain ⟨q1, q2⟩ := hm.pole
  have hT0 := r1.nonneg
  have l1 : Flo.pw 120 = 4 * Flo.pw 118 := by rw [show (120 : Int) = 2 + 118 from rfl, Flo.pw_add, show Flo.pw 2 = 4 from Flo.pw_nat 2]
  have l2 := Flo.pw_lt (a := 120) (b := 125) (by omega)
  have l3 := Flo.pw_pos 118
  have k1 : Flo.Ab (S s.1 * S m.pr) (2 * T) := (r1.mul q1).mono (by grind)
  have k2 : Flo.Ab (S s.2 * S m.pi) (2 * T) := (r2.mul q2).mono (by grind)
  have k3 : Flo.Ab (S s.1 * S m.pi) (2 * T) := (r1.mul q2).mono (by grind)
  have k4 : Flo.Ab (S s.2 * S m.pr) (2 * T) := (r2.mul q1).mono (by grind)
  have d1 : Flo.Ab (S s.1 * S m.pr - S s.2 * S m.pi) (4 * T) := (k1.sub k2).mono (by grind)
  have d2 : Flo.Ab (S s.1 * S m.pi + S s.2 * S m.pr) (4 * T) := (k3.add k4).mono (by grind)
  have P1 := part_sub s.1 m.pr s.2 m.pi h1 n1 h2 n2 (2 * T) (4 * T) k1 k2 d1 (by grind) (by grind)
  have P2 := part_add s.1 m.pi s.2 m.pr h1 n2 h2 n1 (2 * T) (4 * T) k3 k4 d2 (by grind) (by grind)
  have hb := prod_near (4 * T) T Flo.v Flo.es hT0 rfl Flo.v_eq small'.es1
  refine ⟨⟨_, _, _, P1⟩, ⟨_, _, _, P2⟩, P1.num, P2.num, ?_, ?_⟩
  · exact ((d1.add P1.near).eq (by unfold mulSre; grind)).mono hb
  · exact ((d2.add P2.near).eq (by unfold mulSim; grind)).mono hb

/-- A STEP THAT MAY BE INFINITE, but is no NaN and draws nothing. -/
theorem step_wide (m : M4) (hm : m.ok) (s : Nat × Nat) (x : Nat) (h1 : Sm s.1) (h2 : Sm s.2) (hx : Sm x) (T : Rat) (r1 : Flo.Ab (S s.1) T) (r2 : Flo.Ab (S s.2) T) (hT : T ≤ Flo.pw 118) : StepOk m s x := by
  obtain ⟨n1, n2, n3, n4⟩ := hm.nums
  have P := prod_ok m hm s h1 h2 T r1 r2 hT
  have c1 := calm_mul_num m.gr x n3 hx
  have c2 := calm_mul_num m.gi x n4 hx
  exact ⟨h1, h2, P.p1, P.p2, c1, c2, calm_add_num _ _ P.n1 (floatBits_not_nan c1).1, calm_add_num _ _ P.n2 (floatBits_not_nan c2).1⟩

theorem grow_num (T F v es : Rat) (hT : 0 ≤ T) (hF : 0 ≤ F) (ve : v * 16777216 = 1) (e0 : 0 < es) (es1 : es ≤ 1 / 1048576) :
    (5 * T + 1 + (1024 * F + (1024 * F * v + es))) + ((5 * T + 1 + (1024 * F + (1024 * F * v + es))) * v + es) ≤ 6 * T + 1025 * F + 2 := by
  have hv : v = 1 / 16777216 := by grind
  subst hv
  grind
theorem part_grow (p g x : Nat) (T F : Rat) (hp : Sm p) (hg : Sm g) (hx : Sm x) (hT : 0 ≤ T) (bp : Flo.Ab (S p) (5 * T + 1)) (bg : Flo.Ab (S g) 1024) (bx : Flo.Ab (S x) F) (hTt : T ≤ Flo.pw 118) (hFt : F ≤ Flo.pw 110) :
    Sm (opB .add .f32 p (opB .mul .f32 g x)) ∧ Flo.Ab (S (opB .add .f32 p (opB .mul .f32 g x))) (6 * T + 1025 * F + 2) := by
  have l1 : Flo.pw 126 = 256 * Flo.pw 118 := by rw [show (126 : Int) = 8 + 118 from rfl, Flo.pw_add, show Flo.pw 8 = 256 from Flo.pw_nat 8]
  have l2 : Flo.pw 126 = 65536 * Flo.pw 110 := by rw [show (126 : Int) = 16 + 110 from rfl, Flo.pw_add, show Flo.pw 16 = 65536 from Flo.pw_nat 16]
  have l3 := Flo.pw_lt (a := 126) (b := 127) (by omega)
  have l4 : 1 ≤ Flo.pw 110 := by rw [← Flo.pw_zero]; exact Flo.pw_le (by omega)
  have es1 := small'.es1
  have es0 := Flo.es_pos
  have ve := Flo.v_eq
  have hv : Flo.v = 1 / 16777216 := by grind
  have hF0 := bx.nonneg
  obtain ⟨g1, a1, a2, a3⟩ := Flo.s_mul g x hg hx (1024 * F) (bg.mul bx) (by grind)
  obtain ⟨-, b1⟩ := Calm.of a1
  have bg1 : Flo.Ab (S g1) (1024 * F + (1024 * F * Flo.v + Flo.es)) := ((bg.mul bx).add a3).eq (by grind)
  have hs : Flo.Ab (S p + S g1) (5 * T + 1 + (1024 * F + (1024 * F * Flo.v + Flo.es))) := bp.add bg1
  obtain ⟨r, r1, r2, r3⟩ := Flo.s_add p g1 hp a2 _ hs (by rw [hv]; grind)
  obtain ⟨-, b2⟩ := Calm.of r1
  rw [b1, b2]
  exact ⟨r2, ((hs.add r3).eq (by grind)).mono (grow_num T F Flo.v Flo.es hT hF0 ve es0 es1)⟩
/-- A STEP OF THE FIRST TEN: finite, and its parts are bounded. -/
theorem step_grow (m : M4) (hm : m.ok) (s : Nat × Nat) (x : Nat) (h1 : Sm s.1) (h2 : Sm s.2) (hx : Sm x) (T F : Rat) (r1 : Flo.Ab (S s.1) T) (r2 : Flo.Ab (S s.2) T) (bx : Flo.Ab (S x) F) (bg1 : Flo.Ab (S m.gr) 1024) (bg2 : Flo.Ab (S m.gi) 1024) (hT : T ≤ Flo.pw 118) (hF : F ≤ Flo.pw 110) :
    StepOk m s x ∧ Sm (stepS m s x).1 ∧ Sm (stepS m s x).2 ∧ Flo.Ab (S (stepS m s x).1) (6 * T + 1025 * F + 2) ∧ Flo.Ab (S (stepS m s x).2) (6 * T + 1025 * F + 2) := by
  obtain ⟨n1, n2, n3, n4⟩ := hm.nums
  have P := prod_ok m hm s h1 h2 T r1 r2 hT
  obtain ⟨a1, a2⟩ := part_grow _ m.gr x T F P.n1 n3 hx r1.nonneg P.b1 bg1 bx hT hF
  obtain ⟨c1, c2⟩ := part_grow _ m.gi x T F P.n2 n4 hx r1.nonneg P.b2 bg2 bx hT hF
  exact ⟨step_wide m hm s x h1 h2 hx T r1 r2 hT, a1, c1, a2, c2⟩

end Go.Proofs.Ytlhhcchncobmhaa

/- Plain facts on rooms: weights make no gain greater, a gain of 0 rings as nothing, a weight of 1 changes nothing. No program stands in it.
   Conditions: those that each statement names. -/
namespace Go.Proofs.Ytlhhcchncobmhaa
set_option linter.unusedSimpArgs false
set_option linter.unusedVariables false
open Go

theorem ra_one {q : Rat} (h : Flo.Ab q 1) : ra q ≤ 1 := ra_le h
/-- a weight from -1 to 1 makes no part greater -/
theorem wt_part (q t : Nat) (hq : Sm q) (ht : Wt t) (hb : ra (S q) ≤ 2048) :
    Calm .mul .f32 q t ∧ Sm (opB .mul .f32 q t) ∧ ra (S (opB .mul .f32 q t)) ≤ ra (S q) := by
  have n1 := one_s
  have l1 : (2048 : Rat) < Flo.pw 127 := by
    have : Flo.pw 11 < Flo.pw 127 := Flo.pw_lt (by omega)
    rw [show Flo.pw 11 = 2048 from Flo.pw_nat 11] at this
    exact this
  have hqn := ra_nonneg (S q)
  have hm := Rat.mul_le_mul_of_nonneg_left (ra_one ht.2) hqn
  obtain ⟨r, r', e1, e2, e3, e4, e5⟩ := Flo.mul_mono Ieee.single (by decide) q t q 1065353216 hq ht.1 hq n1.1
    (by rw [ra_mul, ra_mul, show Flo.V Ieee.single 1065353216 = 1 from n1.2, ra_pos (show (0:Rat) ≤ 1 by grind)]; exact hm)
    (by rw [ra_mul, show Flo.V Ieee.single 1065353216 = 1 from n1.2, ra_pos (show (0:Rat) ≤ 1 by grind), show Flo.top Ieee.single = 127 from by decide]; show ra (S q) * 1 < _; grind)
  obtain ⟨z, z1, z2, z3⟩ := Flo.mul_fix Ieee.single (by decide) q 1065353216 q hq n1.1 hq
    (by rw [show Flo.V Ieee.single 1065353216 = 1 from n1.2, show Flo.V Ieee.single q * 1 = Flo.V Ieee.single q by grind])
    (by rw [show Flo.top Ieee.single = 127 from by decide]; show ra (S q) < _; grind)
  rw [e2] at z1
  cases z1
  rw [z3, show Flo.V Ieee.single 1065353216 = 1 from n1.2, show Flo.V Ieee.single q * 1 = Flo.V Ieee.single q by grind] at e5
  obtain ⟨c1, b1⟩ := Calm.of (show floatBits .mul .f32 q t = some r from e1)
  rw [b1]
  exact ⟨c1, e3, e5⟩
theorem wt_mul (a b : Nat) (ha : Wt a) (hb : Wt b) : Calm .mul .f32 a b ∧ Wt (opB .mul .f32 a b) := by
  have h1 := ra_one ha.2
  obtain ⟨c, s, l⟩ := wt_part a b ha.1 hb (by grind)
  refine ⟨c, s, ?_⟩
  have := ra_ab (S (opB .mul .f32 a b))
  unfold Flo.Ab at *
  constructor <;> grind
theorem wt_zero : Wt 0 := ⟨nil_s.1, by rw [nil_s.2]; constructor <;> grind⟩
theorem wt_one : Wt 1065353216 := ⟨one_s.1, by rw [one_s.2]; constructor <;> grind⟩
theorem mulB_comm (a b : Nat) : opB .mul .f32 a b = opB .mul .f32 b a := by
  show (Ieee.single.mul a b).getD 0 = (Ieee.single.mul b a).getD 0
  rw [Flo.mul_comm']

/-! ### weighed modes -/
def weighM (w : Nat) (m : M4) : M4 := ⟨m.pr, m.pi, opB .mul .f32 m.gr w, opB .mul .f32 m.gi w⟩
theorem gain_2048 {m : M4} (h : m.ok) : ra (S m.gr) ≤ 2048 ∧ ra (S m.gi) ≤ 2048 := by
  have := (gain_ok m h).2.2
  have h1 := ra_nonneg (S m.gr)
  have h2 := ra_nonneg (S m.gi)
  unfold gm at this
  constructor <;> grind
theorem labs_1024 {g g' : Nat} (hg : Sm g) (hg' : Sm g') (hl : ra (S g') ≤ ra (S g)) (h : leB (labs (wid g)) 4652218415073722368 = true) : leB (labs (wid g')) 4652218415073722368 = true := by
  obtain ⟨n, v⟩ := wid_num hg
  obtain ⟨n', v'⟩ := wid_num hg'
  obtain ⟨l, lv⟩ := labs_num _ (wid_lt g) n
  obtain ⟨l', lv'⟩ := labs_num _ (wid_lt g') n'
  have h1 := (leB_iff l num_1024).1 h
  refine (leB_iff l' num_1024).2 ?_
  rw [lv, v] at h1
  rw [lv', v']
  grind
theorem weighM_calm (m : M4) (w : Nat) (h : m.ok) (hw : Wt w) : Calm .mul .f32 m.gr w ∧ Calm .mul .f32 m.gi w := by
  obtain ⟨s1, s2, s3, s4⟩ := h.nums
  obtain ⟨b1, b2⟩ := gain_2048 h
  exact ⟨(wt_part m.gr w s3 hw b1).1, (wt_part m.gi w s4 hw b2).1⟩
theorem weighM_ok (m : M4) (w : Nat) (h : m.ok) (hw : Wt w) : (weighM w m).ok := by
  obtain ⟨s1, s2, s3, s4⟩ := h.nums
  obtain ⟨b1, b2⟩ := gain_2048 h
  obtain ⟨f1, f2, f3, f4, f5, f6, f7⟩ := Valid.parts h
  obtain ⟨-, a1, a2⟩ := wt_part m.gr w s3 hw b1
  obtain ⟨-, c1, c2⟩ := wt_part m.gi w s4 hw b2
  show modeB m.pr m.pi (opB .mul .f32 m.gr w) (opB .mul .f32 m.gi w) labs = true
  unfold modeB
  rw [f1, f2, f5, (fin_iff' .f32 _).2 a1, (fin_iff' .f32 _).2 c1, labs_1024 s3 a1 a2 f6, labs_1024 s4 c1 c2 f7]
  rfl

/-- the modes, each weighed by its weight -/
def weighL (ms : List M4) (ws : List Nat) : List M4 := List.zipWith (fun m w => weighM w m) ms ws
theorem weighL_len (ms : List M4) (ws : List Nat) (h : ws.length = ms.length) : (weighL ms ws).length = ms.length := by simp [weighL, h]
theorem weighL_at (ms : List M4) (ws : List Nat) (k : Nat) (m : M4) (w : Nat) (h1 : ms[k]? = some m) (h2 : ws[k]? = some w) : (weighL ms ws)[k]? = some (weighM w m) := by
  unfold weighL; rw [List.getElem?_zipWith, h1, h2]
theorem zipw_mem {α β γ : Type} (f : α → β → γ) : ∀ (xs : List α) (ys : List β) (z : γ), z ∈ List.zipWith f xs ys → ∃ x ∈ xs, ∃ y ∈ ys, z = f x y
  | [], _, _, h => by simp at h
  | x :: xs, [], _, h => by simp at h
  | x :: xs, y :: ys, z, h => by
    simp only [List.zipWith_cons_cons] at h
    rcases List.mem_cons.1 h with h | h
    · exact ⟨x, List.mem_cons_self .., y, List.mem_cons_self .., h⟩
    · obtain ⟨a, ha, b, hb, e⟩ := zipw_mem f xs ys z h
      exact ⟨a, List.mem_cons_of_mem _ ha, b, List.mem_cons_of_mem _ hb, e⟩
theorem weighL_ok (ms : List M4) (ws : List Nat) (h : ∀ m ∈ ms, m.ok) (hw : ∀ w ∈ ws, Wt w) : ∀ m ∈ weighL ms ws, m.ok := by
  intro m hm
  obtain ⟨m0, h0, w, h1, rfl⟩ := zipw_mem _ _ _ _ hm
  exact weighM_ok m0 w (h m0 h0) (hw w h1)
/-- products of weights -/
def mulW (a b : List Nat) : List Nat := List.zipWith (fun x y => opB .mul .f32 x y) a b
theorem mulW_len (a b : List Nat) (h : a.length = b.length) : (mulW a b).length = a.length := by simp [mulW, h]
theorem mulW_comm : ∀ (a b : List Nat), mulW a b = mulW b a
  | [], [] => rfl
  | [], _ :: _ => rfl
  | _ :: _, [] => rfl
  | x :: xs, y :: ys => by
    show opB .mul .f32 x y :: mulW xs ys = opB .mul .f32 y x :: mulW ys xs
    rw [mulB_comm x y, mulW_comm xs ys]
theorem mulW_wt (a b : List Nat) (ha : ∀ x ∈ a, Wt x) (hb : ∀ x ∈ b, Wt x) : ∀ x ∈ mulW a b, Wt x := by
  intro x hx
  obtain ⟨p, hp, q, hq, rfl⟩ := zipw_mem _ _ _ _ hx
  exact (wt_mul p q (ha p hp) (hb q hq)).2

/-! ### what is read decides -/
theorem mul_read {a b x : Nat} (h : Ieee.single.read a = Ieee.single.read b) : opB .mul .f32 x a = opB .mul .f32 x b := by
  show (Ieee.single.mul x a).getD 0 = (Ieee.single.mul x b).getD 0
  unfold Ieee.Format.mul; rw [h]
theorem add_read {a b x : Nat} (h : Ieee.single.read a = Ieee.single.read b) : opB .add .f32 x a = opB .add .f32 x b := by
  show (Ieee.single.add x a).getD 0 = (Ieee.single.add x b).getD 0
  unfold Ieee.Format.add; rw [h]
theorem calm_add_read {a b x : Nat} (h : Ieee.single.read a = Ieee.single.read b) (c : Calm .add .f32 x b) : Calm .add .f32 x a := by
  refine calm_some (fun e => ?_)
  have h2 : floatBits .add .f32 x a = floatBits .add .f32 x b := by
    show Ieee.single.add x a = Ieee.single.add x b
    unfold Ieee.Format.add; rw [h]
  rw [h2, c] at e
  cases e
/-- weights of 1 -/
theorem weigh_ones : ∀ (ms : List M4) (ws : List Nat), (∀ w ∈ ws, Sm w) → weighL ms (mulW ws (List.replicate ws.length 1065353216)) = weighL ms ws
  | [], ws, _ => by simp [weighL]
  | m :: ms, [], _ => by simp [weighL, mulW]
  | m :: ms, w :: ws, h => by
    show weighM (opB .mul .f32 w 1065353216) m :: weighL ms (mulW ws (List.replicate ws.length 1065353216)) = weighM w m :: weighL ms ws
    rw [weigh_ones ms ws (fun w hw => h w (List.mem_cons_of_mem _ hw))]
    have r := mul_one_read (h w (List.mem_cons_self ..))
    unfold weighM
    rw [mul_read r, mul_read r]

/-! ### rings of up to 16 modes -/
theorem ring_small16 (ms : List M4) (hms : ∀ m ∈ ms, m.ok) (q n : Nat) (hq : ms.length = q) (hq16 : q ≤ 16) (hn : n ≤ 100) (xs : List Nat) (hxs : xs.length ≤ 20) (hsm : ∀ x ∈ xs, Sm x ∧ Flo.Ab (S x) 5) :
    RingOk ms (inputOf xs) n ∧ ∀ x ∈ ringS ms (inputOf xs) n, Sm x := by
  have hG : rs gm ms ≤ 32768 ∧ 0 ≤ rs gm ms := by
    have h1 := rs_max gm 2048 ms (fun m hm => (gain_ok m (hms m hm)).2.2)
    have h2 : (ms.length : Rat) ≤ 16 := by
      have : ((ms.length : Nat) : Rat) ≤ ((16 : Nat) : Rat) := by exact_mod_cast (by omega : ms.length ≤ 16)
      exact this
    exact ⟨by grind, rs_nonneg gm _ (fun m _ => gm_nonneg m)⟩
  have hX : xsum xs ≤ 100 := by
    have h1 := xsum_le xs 5 (fun x hx => ra_le (hsm x hx).2)
    have h2 : ((xs.length : Nat) : Rat) ≤ ((20 : Nat) : Rat) := by exact_mod_cast hxs
    have h3 : ((20 : Nat) : Rat) = 20 := rfl
    grind
  have hgx : rs gm ms * xsum xs ≤ 3276800 := by
    have h1 := Rat.mul_le_mul_of_nonneg_right hG.1 (xsum_nonneg xs)
    grind
  have hP100 : (3276800 : Rat) ≤ Flo.pw 100 := by
    have h1 : Flo.pw 40 ≤ Flo.pw 100 := Flo.pw_le (by omega)
    rw [show Flo.pw 40 = 1099511627776 from Flo.pw_nat 40] at h1
    grind
  have hD := drift_ok ms hms (inputOf xs) n q hq (by omega) (by omega) (by
      intro i _
      by_cases hi : i < xs.length
      · have e : xs[i]? = some xs[i] := List.getElem?_eq_getElem hi
        rw [show inputOf xs i = xs[i] from by unfold inputOf; rw [List.getD_eq_getElem?_getD, e]; rfl]
        exact (hsm _ (List.getElem_mem hi)).1
      · rw [show inputOf xs i = 0 from by unfold inputOf; rw [List.getD_eq_getElem?_getD, List.getElem?_eq_none (by omega)]; rfl]
        exact zero_single.1) (xsum xs) (fun i _ => by rw [psum_xsum]; exact xsum_take_le _ i) (xsum_nonneg _) (by grind)
  refine ⟨hD.1, fun x hx => ?_⟩
  obtain ⟨i, hi, rfl⟩ := List.mem_map.1 hx
  exact (hD.2.2.1 i (List.mem_range.1 hi)).1
theorem input_sm (xs : List Nat) (h : ∀ x ∈ xs, Sm x) (i : Nat) : Sm (inputOf xs i) := by
  by_cases hi : i < xs.length
  · have e : xs[i]? = some xs[i] := List.getElem?_eq_getElem hi
    rw [show inputOf xs i = xs[i] from by unfold inputOf; rw [List.getD_eq_getElem?_getD, e]; rfl]
    exact h _ (List.getElem_mem hi)
  · rw [show inputOf xs i = 0 from by unfold inputOf; rw [List.getD_eq_getElem?_getD, List.getElem?_eq_none (by omega)]; rfl]
    exact zero_single.1

/-! ### a gain of 0 -/
def Mute (m : M4) : Prop := Flo.Zr Ieee.single m.gr ∧ Flo.Zr Ieee.single m.gi
theorem mute_state (m : M4) (hm : m.ok) (hz : Mute m) (x : Nat → Nat) (hx : ∀ i, Sm (x i)) : ∀ i, Flo.Zr Ieee.single (st1 m x i).1 ∧ Flo.Zr Ieee.single (st1 m x i).2
  | 0 => ⟨zr_zero, zr_zero⟩
  | i + 1 => by
    obtain ⟨z1, z2⟩ := mute_state m hm hz x hx i
    obtain ⟨n1, n2, n3, n4⟩ := hm.nums
    have p1 := (wid_num n1).1
    have p2 := (wid_num n2).1
    have w1 := wid_zr z1
    have w2 := wid_zr z2
    exact ⟨add_zr' (k := .f32) (nar_zr (sub_zr' (k := .f64) (mul_zr' (k := .f64) w1 p1) (mul_zr' (k := .f64) w2 p2))) (mul_zr' (k := .f32) hz.1 (hx i)),
      add_zr' (k := .f32) (nar_zr (add_zr' (k := .f64) (mul_zr' (k := .f64) w1 p2) (mul_zr' (k := .f64) w2 p1))) (mul_zr' (k := .f32) hz.2 (hx i))⟩
theorem add_zero_val {a z : Nat} (ha : Sm a) (hz : Flo.Zr Ieee.single z) : Sm (opB .add .f32 a z) ∧ S (opB .add .f32 a z) = S a := by
  obtain ⟨s, m, p, h⟩ := ha
  obtain ⟨t, j, k⟩ := hz
  obtain ⟨q, c, b, h1, h2⟩ := Flo.sum_val s t m 0 p j
  rw [Flo.val_zero] at h2
  have he : Flo.Ev Ieee.single (Ieee.single.write (.number q c b)) (Ieee.single.write (.number s m p)) := Flo.write_ev _ _ _ _ _ _ _ (by rw [h2]; grind)
  have hr := Flo.read_back Ieee.single bin_inf h
  have e : opB .add .f32 a z = Ieee.single.write (.number q c b) := by
    show (Ieee.single.add a z).getD 0 = _
    unfold Ieee.Format.add; rw [h, k, h1]; rfl
  rw [e]
  rcases he with he | ⟨⟨s1, p1, h3⟩, ⟨s2, p2, h4⟩⟩
  · rw [he]
    exact ⟨⟨_, _, _, hr⟩, by rw [show S (Ieee.single.write (.number s m p)) = _ from Flo.V_eq hr, show S a = _ from Flo.V_eq h]⟩
  · rw [hr] at h4
    injection h4 with a1 a2 a3
    subst a2
    exact ⟨⟨_, _, _, h3⟩, by rw [show S (Ieee.single.write (.number q c b)) = _ from Flo.V_eq h3, show S a = _ from Flo.V_eq h, Flo.val_zero, Flo.val_zero]⟩
theorem fold_mute : ∀ (l : List (Nat × Nat)) (a : Nat), Sm a → (∀ s ∈ l, Flo.Zr Ieee.single s.1) → Sm (l.foldl (fun y s => opB .add .f32 y s.1) a) ∧ S (l.foldl (fun y s => opB .add .f32 y s.1) a) = S a
  | [], a, h, _ => ⟨h, rfl⟩
  | s :: l, a, h, hl => by
    obtain ⟨h1, h2⟩ := add_zero_val h (hl s (List.mem_cons_self ..))
    obtain ⟨h3, h4⟩ := fold_mute l _ h1 (fun s hs => hl s (List.mem_cons_of_mem _ hs))
    exact ⟨h3, h4.trans h2⟩
theorem mute_out (A Z : List M4) (hZ : ∀ m ∈ Z, m.ok ∧ Mute m) (x : Nat → Nat) (hx : ∀ i, Sm (x i)) (i : Nat) (hs : Sm (outS (stAt A x i))) :
    Sm (outS (stAt (A ++ Z) x i)) ∧ S (outS (stAt (A ++ Z) x i)) = S (outS (stAt A x i)) := by
  rw [stAt_map] at hs ⊢
  rw [stAt_map, List.map_append]
  unfold outS at *
  rw [List.foldl_append]
  refine fold_mute _ _ hs (fun s h => ?_)
  obtain ⟨m, hm, rfl⟩ := List.mem_map.1 h
  exact (mute_state m (hZ m hm).1 (hZ m hm).2 x hx i).1
theorem val_order {a b : Nat} (ha : Sm a) (hb : Sm b) (h : S a = S b) : (FloatKind.f32.format.order a b == some .eq) = true := by
  rw [show FloatKind.f32.format = Ieee.single from rfl, beq_iff_eq]
  exact (Flo.order_num Ieee.single a b ha hb).2.1.2 h

end Go.Proofs.Ytlhhcchncobmhaa

/- The walk of TuneBody over a valid body and the number 1.
   Conditions: those that each statement names. -/
namespace Go.Proofs.Ytlhhcchncobmhaa
set_option linter.unusedSimpArgs false
set_option linter.unusedVariables false
open Go Go.RowKit

theorem tune_part1 (m : M4) (h : m.ok) : PartOk .sub m.pr 1065353216 m.pi 0 (S m.pr * S 1065353216 - S m.pi * S 0) 4 4 := by
  obtain ⟨s1, s2, s3, s4⟩ := h.nums
  obtain ⟨p1, p2⟩ := h.pole
  have l1 : (4 : Rat) ≤ Flo.pw 120 := by
    have : Flo.pw 2 ≤ Flo.pw 120 := Flo.pw_le (by omega)
    rw [show Flo.pw 2 = 4 from Flo.pw_nat 2] at this
    exact this
  have l2 : (4 : Rat) ≤ Flo.pw 125 := by
    have : Flo.pw 2 ≤ Flo.pw 125 := Flo.pw_le (by omega)
    rw [show Flo.pw 2 = 4 from Flo.pw_nat 2] at this
    exact this
  refine part_sub m.pr 1065353216 m.pi 0 s1 one_s.1 s2 nil_s.1 4 4 ?_ ?_ ?_ l1 l2
  all_goals (try rw [one_s.2]) <;> (try rw [nil_s.2])
  all_goals (unfold Flo.Ab at *; constructor <;> grind)
theorem tune_part2 (m : M4) (h : m.ok) : PartOk .add m.pr 0 m.pi 1065353216 (S m.pr * S 0 + S m.pi * S 1065353216) 4 4 := by
  obtain ⟨s1, s2, s3, s4⟩ := h.nums
  obtain ⟨p1, p2⟩ := h.pole
  have l1 : (4 : Rat) ≤ Flo.pw 120 := by
    have : Flo.pw 2 ≤ Flo.pw 120 := Flo.pw_le (by omega)
    rw [show Flo.pw 2 = 4 from Flo.pw_nat 2] at this
    exact this
  have l2 : (4 : Rat) ≤ Flo.pw 125 := by
    have : Flo.pw 2 ≤ Flo.pw 125 := Flo.pw_le (by omega)
    rw [show Flo.pw 2 = 4 from Flo.pw_nat 2] at this
    exact this
  refine part_add m.pr 0 m.pi 1065353216 s1 nil_s.1 s2 one_s.1 4 4 ?_ ?_ ?_ l1 l2
  all_goals (try rw [one_s.2]) <;> (try rw [nil_s.2])
  all_goals (unfold Flo.Ab at *; constructor <;> grind)

def tuneL (ms : List M4) (k : Nat) : List M4 := (ms.take k).map tuneM ++ ms.drop k
theorem tuneL_len (ms : List M4) (k : Nat) : (tuneL ms k).length = ms.length := by simp [tuneL]; omega
theorem tuneL_zero (ms : List M4) : tuneL ms 0 = ms := by simp [tuneL]
theorem tuneL_full (ms : List M4) (n : Nat) (h : ms.length = n) : tuneL ms n = ms.map tuneM := by
  simp [tuneL, List.take_of_length_le (Nat.le_of_eq h), List.drop_of_length_le (Nat.le_of_eq h)]
theorem tuneL_at (ms : List M4) (k : Nat) (m : M4) (h : ms[k]? = some m) : (tuneL ms k)[k]? = some m := by
  obtain ⟨hk, he⟩ := List.getElem?_eq_some_iff.1 h
  unfold tuneL
  rw [List.getElem?_append_right (by simp; omega)]
  simp only [List.length_map, List.length_take, Nat.min_eq_left (Nat.le_of_lt hk), Nat.sub_self, List.getElem?_drop, Nat.add_zero, h]
theorem tuneL_set (ms : List M4) (k : Nat) (m : M4) (h : ms[k]? = some m) : (tuneL ms k).set k (tuneM m) = tuneL ms (k + 1) := by
  obtain ⟨hk, he⟩ := List.getElem?_eq_some_iff.1 h
  unfold tuneL
  rw [List.take_succ_eq_append_getElem hk, he, List.drop_eq_getElem_cons hk, he, List.set_append_right _ _ (by simp; omega)]
  simp [Nat.min_eq_left (Nat.le_of_lt hk)]

def TuneI (ms : List M4) (n base D E : Nat) (v : Value) (w : World) (i : Value) (wr : World) : Prop :=
  ∃ k : Nat, k ≤ n ∧ i = .int .i64 (k : Int) ∧ wr.ownsRow base 61 2 v n (cellsM (tuneL ms k)) ∧ Has1 wr D (.slice none 0 0) ∧ Has1 wr E v ∧ Nw w wr

end Go.Proofs.Ytlhhcchncobmhaa

/- The walks of EqualSingle and mergeMode over modes with finite parts.
   Conditions: those that each statement names. -/
namespace Go.Proofs.Ytlhhcchncobmhaa
set_option linter.unusedSimpArgs false
set_option linter.unusedVariables false
open Go Go.RowKit

def eqB (a b : Nat) : Bool := FloatKind.f32.format.order a b == some .eq

def poleEq (x m : M4) : Bool := eqB x.pr m.pr && eqB x.pi m.pi
def addG (x m : M4) : M4 := ⟨x.pr, x.pi, opB .add .f32 x.gr m.gr, opB .add .f32 x.gi m.gi⟩
/-- one mode more: added to the first one with an equal pole, or put at the end -/
def put1 : List M4 → M4 → List M4
  | [], m => [m]
  | x :: l, m => if poleEq x m then addG x m :: l else x :: put1 l m
theorem put1_none (l : List M4) (m : M4) (h : ∀ j : Nat, j < l.length → ∀ x, l[j]? = some x → poleEq x m = false) : put1 l m = l ++ [m] := by
  induction l with
  | nil => rfl
  | cons x l ih =>
    have h0 := h 0 (by simp) x rfl
    simp only [put1, h0, Bool.false_eq_true, if_false, List.cons_append]
    rw [ih (fun j hj y hy => h (j + 1) (by simp; omega) y (by simpa using hy))]
theorem put1_hit (l : List M4) (m : M4) (k : Nat) (x : M4) (hk : l[k]? = some x) (hx : poleEq x m = true) (h : ∀ j : Nat, j < k → ∀ x, l[j]? = some x → poleEq x m = false) : put1 l m = l.set k (addG x m) := by
  induction l generalizing k with
  | nil => simp at hk
  | cons y l ih =>
    cases k with
    | zero =>
      simp at hk
      subst hk
      simp [put1, hx]
    | succ k =>
      have h0 := h 0 (by omega) y rfl
      simp only [put1, h0, Bool.false_eq_true, if_false, List.set_cons_succ]
      rw [ih k (by simpa using hk) (fun j hj z hz => h (j + 1) (by omega) z (by simpa using hz))]
theorem put1_len (l : List M4) (m : M4) : (put1 l m).length = l.length ∨ (put1 l m).length = l.length + 1 := by
  induction l with
  | nil => right; rfl
  | cons x l ih =>
    unfold put1
    split
    · left; simp
    · rcases ih with h | h <;> simp [h]

theorem cellsM_setG (l : List M4) (k : Nat) (m m' : M4) (h : l[k]? = some m) (hg : m'.pr = m.pr ∧ m'.pi = m.pi) :
    (cellsM l).set (k * 2 + 1) (.complex .f32 m'.gr m'.gi) = cellsM (l.set k m') := by
  induction l generalizing k with
  | nil => simp at h
  | cons x l ih =>
    cases k with
    | zero =>
      simp at h
      subst h
      simp [cellsM, M4.cells, hg.1, hg.2]
    | succ k =>
      have hk := ih k (by simpa using h)
      simp only [cellsM, List.flatMap_cons, List.set_cons_succ] at *
      rw [show (k + 1) * 2 + 1 = k * 2 + 1 + 2 from by omega]
      simp only [M4.cells, List.cons_append, List.nil_append, List.set_cons_succ]
      rw [hk]

def MergeP (base : Nat) (v : Value) (out : List M4) (w : World) (e : Ending) (w' : World) : Prop :=
  ∃ v', e = .returned v' ∧ w'.ownsRow base 61 2 v' out.length (cellsM out) ∧ w.grownBy w' v.ownBlock
def MergeI (out : List M4) (m : M4) (n base : Nat) (v : Value) (b : Nat) (w : World) (i : Value) (wr : World) : Prop :=
  ∃ k : Nat, k ≤ n ∧ i = .int .i64 (k : Int) ∧ (∀ j : Nat, j < k → ∀ x, out[j]? = some x → poleEq x m = false) ∧ wr.ownsRow base 61 2 v n (cellsM out) ∧ HasMode wr b m.pr m.pi m.gr m.gi ∧ w.grownBy wr v.ownBlock

end Go.Proofs.Ytlhhcchncobmhaa

/- The walk of slices.Grow of a nil slice of modes.
   Conditions: those that each statement names. -/
namespace Go.Proofs.Ytlhhcchncobmhaa
set_option linter.unusedSimpArgs false
set_option linter.unusedVariables false
open Go Go.RowKit

set_option maxRecDepth 100000 in
theorem grow_nil (n : Nat) (hn : n ≤ 64) (w : World) :
    Calls Try.prog 96 #[.slice none 0 0, .int .i64 (n : Int)] w (RowP [] w) := by
  have hb16 : Try.t61.bytes = 16 := rfl
  go_enter Try.func96, Try.ntmps96
  go_wp2_with fail
  all_goals try (rw [hb16] at *; omega)
  · have e : Builtin.nextslicecap n 0 = n := by unfold Builtin.nextslicecap; rw [if_pos (by omega)]
    simp only [e] at *
    omega
  · have hcap : n ≤ (Question.appendCap n 0 61).cut (w.tape w.drawn (Question.appendCap n 0 61)) ∧ (Question.appendCap n 0 61).cut (w.tape w.drawn (Question.appendCap n 0 61)) ≤ maxLen := by
      simp only [Question.cut]
      have hlt := Nat.mod_lt (w.tape w.drawn (Question.appendCap n 0 61)) (show 0 < 2 ^ 63 - n by omega)
      unfold maxLen
      omega
    generalize (Question.appendCap n 0 61).cut (w.tape w.drawn (Question.appendCap n 0 61)) = cp at *
    go_ret
    refine ⟨_, rfl, ?_, ((Nw.refl w).alloc _).draw 1⟩
    exact own_nw (World.ownsRow_made w _ cp (Nat.le_refl _) hcap.2 (by simp [Builtin.zeroCells]; omega)) ((Nw.refl _).draw 1)
  · go_ret
    exact ⟨_, rfl, World.ownsRow_nil _ _ _ _, Nw.refl _⟩
end Go.Proofs.Ytlhhcchncobmhaa

/- The walk of slices.Concat over two bodies' modes.
   Conditions: those that each statement names. -/
namespace Go.Proofs.Ytlhhcchncobmhaa
set_option linter.unusedSimpArgs false
set_option linter.unusedVariables false
open Go Go.RowKit

def partL (a b : List M4) (k : Nat) : List M4 := if k = 0 then [] else if k = 1 then a else a ++ b
def SizeI (n m : Nat) (w : World) (y i : Value) (wr : World) : Prop := ∃ k : Nat, k ≤ 2 ∧ i = .int .i64 (k : Int) ∧ y = .int .i64 ((if k = 0 then 0 else if k = 1 then n else n + m : Nat) : Int) ∧ wr = w

def ConcI (a b : List M4) (w : World) (y i : Value) (wr : World) : Prop :=
  ∃ k : Nat, k ≤ 2 ∧ i = .int .i64 (k : Int) ∧ wr.ownsRow w.heap.size 61 2 y (partL a b k).length (cellsM (partL a b k)) ∧ Nw w wr

theorem cells_one (a : List M4) : ∀ u ∈ cellsM a, u.oneCell' = true := by
  intro u hu
  obtain ⟨m, _, hu⟩ := List.mem_flatMap.1 hu
  simp [M4.cells] at hu
  rcases hu with rfl | rfl <;> rfl
theorem own_cell {w : World} {base n g cap : Nat} {a : List M4} (h : w.ownsRow base 61 2 (.slice (some ⟨g, 0, none⟩) n cap) n (cellsM a)) (hn : a.length = n) {j : Nat} {u : Value} (hj : (cellsM a)[j]? = some u) :
    w.cell? ((⟨g, 0, none⟩ : Addr).add j) = some u := by
  have hj' : j < n * 2 := by
    have := (List.getElem?_eq_some_iff.1 hj).1
    rw [cellsM_len, hn] at this
    exact this
  have c1 := h.cellAt j hj'
  rw [hj] at c1
  rw [show (⟨g, 0, none⟩ : Addr).add j = ⟨g, j, none⟩ from by simp [Addr.add]; first | done | (intro h; omega)]
  exact c1

set_option maxHeartbeats 1600000 in
set_option maxRecDepth 100000 in
theorem concat_modes (a b : List M4) (n m bm bn h : Nat) (va vb : Value) (hn : a.length = n) (hm : b.length = m) (hn64 : n ≤ 16) (hm64 : m ≤ 16) (w : World)
    (ha : w.ownsRow bm 61 2 va n (cellsM a)) (hb : w.ownsRow bn 61 2 vb m (cellsM b))
    (h0 : h < w.heap.size) (h1 : w.cell? ⟨h, 0, none⟩ = some va) (h2 : w.cell? ⟨h, 1, none⟩ = some vb) :
    Calls Try.prog 63 #[.slice (some ⟨h, 0, none⟩) 2 2] w (RowP (a ++ b) w) := by
  obtain ⟨va, vc, rfl⟩ := own_shape' ha
  obtain ⟨ub, uc, rfl⟩ := own_shape' hb
  have Ha := Lib.hid ha
  have Hb := Lib.hid hb
  have Hn := Lib.hid hn
  have Hm := Lib.hid hm
  clear ha hb hn hm
  go_enter Try.func63, Try.ntmps63
  go_wp2_with fail
  go_loopw [3, 11] (fun y i wr => SizeI n m w y i wr) (fun _ i _ => 2 - (intOf i).toNat)
  case atStart => exact ⟨0, by omega, rfl, rfl, rfl⟩
  case round =>
    obtain ⟨k, hk, rfl, rfl, rfl⟩ := hrel
    have hk3 : k = 0 ∨ k = 1 ∨ k = 2 := by omega
    rcases hk3 with rfl | rfl | rfl
    · go_wp2_with fail
      go_roundw
      case rel => exact ⟨1, by omega, rfl, by simp, rfl⟩
      case measure => simp [intOf]
    · go_wp2_with fail
      go_roundw
      case rel => exact ⟨2, by omega, rfl, by simp, rfl⟩
      case measure => simp [intOf]
    · go_wp2_with fail
      rw [show ((n : Int) + (m : Int)) = ((n + m : Nat) : Int) from by omega]
      refine (grow_nil (n + m) (by omega) _).mono ?_
      rintro e w3 ⟨v3, rfl, own3, n3⟩
      obtain ⟨va3, vc3, rfl⟩ := own_shape' own3
      have O3 := Lib.hid own3
      have N3 := Lib.hid n3
      clear own3 n3
      have P1 := Lib.hid h1
      have P2 := Lib.hid h2
      clear h1 h2
      go_wp2_with fail
      go_loopw [6, 27] (fun y i wx => ConcI a b wr y i wx) (fun _ i _ => 2 - (intOf i).toNat)
      case atStart => exact ⟨0, by omega, rfl, by simpa [partL, cellsM] using O3.out, N3.out⟩
      case round =>
        obtain ⟨k, hk, rfl, hrow, hnw⟩ := hrel
        have Row := Lib.hid hrow
        have Nx := Lib.hid hnw
        clear hrow hnw
        have hk3 : k = 0 ∨ k = 1 ∨ k = 2 := by omega
        obtain ⟨ya, yc, rfl⟩ := own_shape' Row.out
        obtain ⟨i0, hi, hz0, hz1, hz2⟩ := info_parts info_mode
        rcases hk3 with rfl | rfl | rfl
        · have c1 := (Nx.out.cell (p := ⟨h, 0, none⟩) h0).trans P1.out
          have Hax := Lib.hid (own_nw Ha.out Nx.out)
          rcases Hax.out.2 with ⟨g1, g2⟩ | ⟨g, cap, cur, g1, hb, hg, hc, hmx, hs, ht⟩
          · cases g1
            have ha0 := Lib.hid (show a = [] from List.eq_nil_of_length_eq_zero (by have := Hn.out; omega))
            go_wp2_with (at_builtin; refine wpList_append_own_none rfl _ _ 23 rfl _ 61 i0 2 Try.underlying23 hi _ _ _ rfl Row.out rfl ?_)
            go_wp2_with fail
            go_roundw
            case rel =>
                have F : ConcI a b _ _ _ _ := ⟨1, by omega, rfl, by have h := Row.out; simp only [partL] at h ⊢; have e := ha0.out; subst e; simpa using h, Nx.out⟩
                first | exact F | exact ⟨_, _, _, F, rfl, rfl, rfl⟩
            case measure => simp [intOf]
          · cases g1
            clear hb hg hc hs ht
            go_wp2_with (at_builtin; go_loud (refine wpList_append_own _ rfl _ _ 23 rfl _ 61 i0 (.agg #[.complex .f32 0 0, .complex .f32 0 0]) 2 16 Try.underlying23 hi hz0 hz1 hz2 rfl (by decide) _ _ _ rfl Row.out ⟨g, 0, none⟩ n _ (cellsM a) rfl (by rw [cellsM_len]; have := Hn.out; omega) ?qc2 (cells_one a) ?qc4 ?qc5 Nx.out.size ?_))
            case qc2 => exact fun j u hj => own_cell Hax.out Hn.out hj
            case qc4 => simp [partL]; unfold maxLen; omega
            case qc5 => simp [partL]; omega
            · intro v' w1 hown hgrow hnil
              have Hown := Lib.hid hown
              have Hgr := Lib.hid (Nx.out.grown hgrow (fun q hq => (Row.out.lt q hq).1))
              clear hown hgrow hnil
              go_wp2_with fail
              go_roundw
              case rel =>
                have F : ConcI a b _ _ _ _ := ⟨1, by omega, rfl, by have h := Hown.out; simp only [partL] at h ⊢; simpa [cellsM, Hn.out] using h, Hgr.out⟩
                first | exact F | exact ⟨_, _, _, F, rfl, rfl, rfl⟩
              case measure => simp [intOf]
        · have c1 := (Nx.out.cell (p := ⟨h, 1, none⟩) h0).trans P2.out
          have Hax := Lib.hid (own_nw Hb.out Nx.out)
          rcases Hax.out.2 with ⟨g1, g2⟩ | ⟨g, cap, cur, g1, hb, hg, hc, hmx, hs, ht⟩
          · cases g1
            have ha0 := Lib.hid (show b = [] from List.eq_nil_of_length_eq_zero (by have := Hm.out; omega))
            go_wp2_with (at_builtin; refine wpList_append_own_none rfl _ _ 23 rfl _ 61 i0 2 Try.underlying23 hi _ _ _ rfl Row.out rfl ?_)
            go_wp2_with fail
            go_roundw
            case rel =>
                have F : ConcI a b _ _ _ _ := ⟨2, by omega, rfl, by have h := Row.out; simp only [partL] at h ⊢; have e := ha0.out; subst e; simpa using h, Nx.out⟩
                first | exact F | exact ⟨_, _, _, F, rfl, rfl, rfl⟩
            case measure => simp [intOf]
          · cases g1
            clear hb hg hc hs ht
            go_wp2_with (at_builtin; go_loud (refine wpList_append_own _ rfl _ _ 23 rfl _ 61 i0 (.agg #[.complex .f32 0 0, .complex .f32 0 0]) 2 16 Try.underlying23 hi hz0 hz1 hz2 rfl (by decide) _ _ _ rfl Row.out ⟨g, 0, none⟩ m _ (cellsM b) rfl (by rw [cellsM_len]; have := Hm.out; omega) ?qc2 (cells_one b) ?qc4 ?qc5 Nx.out.size ?_))
            case qc2 => exact fun j u hj => own_cell Hax.out Hm.out hj
            case qc4 => simp [partL, Hn.out]; unfold maxLen; omega
            case qc5 => simp [partL, Hn.out]; omega
            · intro v' w1 hown hgrow hnil
              have Hown := Lib.hid hown
              have Hgr := Lib.hid (Nx.out.grown hgrow (fun q hq => (Row.out.lt q hq).1))
              clear hown hgrow hnil
              go_wp2_with fail
              go_roundw
              case rel =>
                have F : ConcI a b _ _ _ _ := ⟨2, by omega, rfl, by have h := Hown.out; simp only [partL] at h ⊢; simpa [cellsM, Hn.out, Hm.out] using h, Hgr.out⟩
                first | exact F | exact ⟨_, _, _, F, rfl, rfl, rfl⟩
              case measure => simp [intOf]
        · go_wp2_with fail
          go_ret
          exact ⟨_, rfl, by have h := Row.out; simpa [partL] using h, Nx.out⟩

end Go.Proofs.Ytlhhcchncobmhaa
