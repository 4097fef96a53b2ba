/- The walk of RingDouble, where no NaN and no infinity is met: bit for bit.
   Conditions: those that each statement names. -/
import Derived.Test.YtcodiiajmffdoaaRingB
import Derived.Test.YtcodiiajmffdoaaStepD
import Derived.StillTailTactics
namespace Go.Proofs.Ytcodiiajmffdoaa
open Go Go.RowKit

def stepAllD (ms : List M4) (ss : List (Nat × Nat)) (x : Nat) : List (Nat × Nat) := List.zipWith (fun m s => stepD m s x) ms ss
def outD (ss : List (Nat × Nat)) : Nat := ss.foldl (fun y s => opB .add .f64 y s.1) 0
def cellsD (ss : List (Nat × Nat)) : List Value := ss.map fun s => .complex .f64 s.1 s.2
def cellsF (xs : List Nat) : List Value := xs.map (Value.float .f64)
def SumDOk (ss : List (Nat × Nat)) : Prop := ∀ (k : Nat) s, ss[k]? = some s → Calm .add .f64 (outD (ss.take k)) s.1
theorem outD_take (ss : List (Nat × Nat)) (k : Nat) (s : Nat × Nat) (h : ss[k]? = some s) : outD (ss.take (k + 1)) = opB .add .f64 (outD (ss.take k)) s.1 := by
  obtain ⟨hk, he⟩ := List.getElem?_eq_some_iff.1 h
  rw [List.take_succ_eq_append_getElem hk, he]
  simp [outD, List.foldl_append]
def mixedD (ms : List M4) (ss : List (Nat × Nat)) (x k : Nat) : List (Nat × Nat) := (stepAllD ms ss x).take k ++ ss.drop k
theorem mixedD_at (ms : List M4) (ss : List (Nat × Nat)) (x k : Nat) (s : Nat × Nat) (hl : ms.length = ss.length) (h : ss[k]? = some s) : (cellsD (mixedD ms ss x k))[k]? = some (.complex .f64 s.1 s.2) := by
  have hk := (List.getElem?_eq_some_iff.1 h).1
  have hlen : ((stepAllD ms ss x).take k).length = k := by simp [stepAllD]; omega
  unfold mixedD cellsD
  rw [List.getElem?_map, List.getElem?_append_right (by omega), hlen, Nat.sub_self, List.getElem?_drop, Nat.add_zero, h]
  rfl
theorem stepAllD_at (ms : List M4) (ss : List (Nat × Nat)) (x k : Nat) (m : M4) (s : Nat × Nat) (hm : ms[k]? = some m) (hs : ss[k]? = some s) : (stepAllD ms ss x)[k]? = some (stepD m s x) := by
  unfold stepAllD; rw [List.getElem?_zipWith, hm, hs]
theorem mixedD_step (ms : List M4) (ss : List (Nat × Nat)) (x k : Nat) (m : M4) (s : Nat × Nat) (hm : ms[k]? = some m) (hs : ss[k]? = some s) :
    (cellsD (mixedD ms ss x k)).set k (.complex .f64 (stepD m s x).1 (stepD m s x).2) = cellsD (mixedD ms ss x (k + 1)) := by
  obtain ⟨hkm, -⟩ := List.getElem?_eq_some_iff.1 hm
  obtain ⟨hks, hse⟩ := List.getElem?_eq_some_iff.1 hs
  have hat := stepAllD_at ms ss x k m s hm hs
  obtain ⟨hka, hae⟩ := List.getElem?_eq_some_iff.1 hat
  unfold mixedD
  rw [List.take_succ_eq_append_getElem hka, hae, List.drop_eq_getElem_cons hks, hse]
  simp only [cellsD, List.map_append, List.map_cons, List.map_nil, List.append_assoc, List.singleton_append]
  rw [List.set_append_right _ _ (by simp [stepAllD]; omega)]
  simp [stepAllD, show k - min k (min ms.length ss.length) = 0 from by omega]
theorem mixedD_after (ms : List M4) (ss : List (Nat × Nat)) (x k : Nat) (m : M4) (s : Nat × Nat) (hm : ms[k]? = some m) (hs : ss[k]? = some s) :
    (cellsD (mixedD ms ss x (k + 1)))[k]? = some (.complex .f64 (stepD m s x).1 (stepD m s x).2) := by
  obtain ⟨hkm, -⟩ := List.getElem?_eq_some_iff.1 hm
  obtain ⟨hks, hse⟩ := List.getElem?_eq_some_iff.1 hs
  rw [← mixedD_step ms ss x k m s hm hs, List.getElem?_set_self]
  simp [cellsD, mixedD, stepAllD]; omega
theorem mixedD_full (ms : List M4) (ss : List (Nat × Nat)) (x : Nat) (hl : ms.length = ss.length) : mixedD ms ss x ms.length = stepAllD ms ss x := by
  unfold mixedD
  rw [List.take_of_length_le (by simp [stepAllD]; omega), List.drop_of_length_le (by omega), List.append_nil]

def stDAt (ms : List M4) (x : Nat → Nat) : Nat → List (Nat × Nat)
  | 0 => ms.map fun _ => (0, 0)
  | i + 1 => stepAllD ms (stDAt ms x i) (wid (x i))
theorem stDAt_len (ms : List M4) (x : Nat → Nat) : ∀ i, (stDAt ms x i).length = ms.length
  | 0 => by simp [stDAt]
  | i + 1 => by simp [stDAt, stepAllD, stDAt_len ms x i]
def RingDOk (ms : List M4) (x : Nat → Nat) (n : Nat) : Prop :=
  ∀ i, i < n → Sm (x i) ∧ (∀ (k : Nat) m s, ms[k]? = some m → (stDAt ms x i)[k]? = some s → StepDOk m s (wid (x i))) ∧ SumDOk (stDAt ms x (i + 1))
def ringD (ms : List M4) (x : Nat → Nat) (n : Nat) : List Nat := (List.range n).map fun i => outD (stDAt ms x (i + 1))

/-- the outputs when k steps are done, and the next one is y so far -/
def outsDAt (ms : List M4) (x : Nat → Nat) (n k y : Nat) : List Nat := ((ringD ms x n).take k ++ List.replicate (n - k) 0).set k y
theorem outsD_zero (ms : List M4) (x : Nat → Nat) (n : Nat) : cellsF (outsDAt ms x n 0 0) = List.replicate n (.float .f64 0) := by
  unfold outsDAt cellsF
  cases n <;> simp [List.replicate_succ]
theorem outsD_cell (ms : List M4) (x : Nat → Nat) (n k y : Nat) (h : k < n) : (cellsF (outsDAt ms x n k y))[k]? = some (.float .f64 y) := by
  unfold outsDAt cellsF
  rw [List.getElem?_map, List.getElem?_set_self (by simp [ringD]; omega)]; rfl
theorem outsD_set (ms : List M4) (x : Nat → Nat) (n k y z : Nat) : (cellsF (outsDAt ms x n k y)).set k (.float .f64 z) = cellsF (outsDAt ms x n k z) := by
  unfold outsDAt cellsF
  rw [List.map_set, List.set_set, List.map_set]
theorem outsD_next (ms : List M4) (x : Nat → Nat) (n k : Nat) (h : k < n) : outsDAt ms x n k (outD (stDAt ms x (k + 1))) = outsDAt ms x n (k + 1) 0 := by
  have hk : k < (ringD ms x n).length := by simpa [ringD] using h
  have hv : (ringD ms x n)[k] = outD (stDAt ms x (k + 1)) := by simp [ringD]
  unfold outsDAt
  rw [List.take_succ_eq_append_getElem hk, hv, show n - k = (n - (k + 1)) + 1 from by omega, List.replicate_succ]
  rw [List.set_append_right _ _ (by simp [ringD]; omega)]
  have e : k - ((ringD ms x n).take k).length = 0 := by simp [ringD]; omega
  rw [e, List.set_cons_zero, List.append_assoc, List.singleton_append]
  rw [List.set_append_right _ _ (by simp [ringD]; omega)]
  have e2 : k + 1 - ((ringD ms x n).take k).length = 1 := by simp [ringD]; omega
  rw [e2, List.set_cons_succ]
  congr 2
  cases hq : n - (k + 1) <;> simp [List.replicate_succ]
theorem outsD_full (ms : List M4) (x : Nat → Nat) (n : Nat) : outsDAt ms x n n 0 = ringD ms x n := by
  unfold outsDAt; rw [List.take_of_length_le (by simp [ringD]), Nat.sub_self, List.replicate_zero, List.append_nil, List.set_eq_of_length_le (by simp [ringD])]

theorem info_c128 : (Try.prog.info? 32).map (fun i => (i.zero, i.size, i.bytes)) = some (some (.complex .f64 0 0), 1, 16) := by kernel_rfl
theorem info_f64 : (Try.prog.info? 27).map (fun i => (i.zero, i.size, i.bytes)) = some (some (.float .f64 0), 1, 8) := by kernel_rfl

/-- what holds at the head of a round: k steps are done; the states of the next one are done for the first j modes -/
def RingDI (B bb gs gu n q : Nat) (ms : List M4) (x : Nat → Nat) (bv : Value) (w : World) (k j y : Nat) (wr : World) : Prop :=
  wr.ownsRow B 32 1 (.slice (some ⟨gs, 0, none⟩) q q) q (cellsD (mixedD ms (stDAt ms x k) (wid (x k)) j)) ∧
    wr.ownsRow B 27 1 (.slice (some ⟨gu, 0, none⟩) n n) n (cellsF (outsDAt ms x n k y)) ∧ Has1 wr bb bv ∧ Nw w wr

def RingDP (B : Nat) (outs : List Nat) (w : World) (e : Ending) (w' : World) : Prop :=
  ∃ v : Value, e = .returned (.tuple #[v, .bool true]) ∧ w'.ownsRow B 27 1 v outs.length (cellsF outs) ∧ Nw w w'

def OutI (B bb gs gu n q : Nat) (ms : List M4) (x : Nat → Nat) (bv : Value) (w : World) (i : Value) (wr : World) : Prop :=
  ∃ k : Nat, k ≤ n ∧ i = .int .i64 (k : Int) ∧ RingDI B bb gs gu n q ms x bv w k 0 0 wr
def InI (B bb gs gu n q : Nat) (ms : List M4) (x : Nat → Nat) (bv : Value) (w : World) (k : Nat) (i : Value) (wr : World) : Prop :=
  ∃ j : Nat, j ≤ q ∧ i = .int .i64 (j : Int) ∧ RingDI B bb gs gu n q ms x bv w k j (outD ((stepAllD ms (stDAt ms x k) (wid (x k))).take j)) wr

end Go.Proofs.Ytcodiiajmffdoaa
