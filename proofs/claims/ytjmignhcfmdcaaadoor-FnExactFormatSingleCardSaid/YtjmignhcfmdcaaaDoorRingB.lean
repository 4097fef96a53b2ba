/- The walks of IsBody, sampleAt and RingBody, where nothing overflows: bit for bit.
   Conditions: those that each statement names. -/
import Derived.Test.YtjmignhcfmdcaaaDoorRing
namespace Go.Proofs.YtjmignhcfmdcaaaDoor
set_option linter.unusedSimpArgs false
set_option linter.unusedVariables false
open Go Go.RowKit

def ValI (n : Nat) (w : World) (i : Value) (wr : World) : Prop := ∃ k : Nat, k ≤ n ∧ i = .int .i64 (k : Int) ∧ Nw w wr

theorem own_sample {w : World} {base n k : Nat} {v : Value} {xs : List Nat} (h : w.ownsRow base 22 1 v n (cellsS xs)) {x : Nat} (hk : xs[k]? = some x) (hn : n = xs.length) :
    ∃ g cap, v = .slice (some ⟨g, 0, none⟩) n cap ∧ n ≤ cap ∧ cap ≤ maxLen ∧ g < w.heap.size ∧ w.cell? ⟨g, k, none⟩ = some (.float .f32 x) := by
  have hkl := (List.getElem?_eq_some_iff.1 hk).1
  rcases h.2 with ⟨_, h0⟩ | ⟨g, cap, cur, rfl, hb, hg, hc, hm, hs, ht⟩
  · omega
  · have c1 := h.cellAt k (by omega)
    rw [show (cellsS xs)[k]? = some (.float .f32 x) from by simp [cellsS, hk]] at c1
    exact ⟨g, cap, rfl, hc, hm, (h.lt g rfl).2, c1⟩

def inputOf (xs : List Nat) (i : Nat) : Nat := xs.getD i 0
/-! ### ringing -/
def stAt (ms : List M4) (x : Nat → Nat) : Nat → List (Nat × Nat)
  | 0 => ms.map fun _ => (0, 0)
  | i + 1 => stepAll ms (stAt ms x i) (x i)
theorem stAt_len (ms : List M4) (x : Nat → Nat) : ∀ i, (stAt ms x i).length = ms.length
  | 0 => by simp [stAt]
  | i + 1 => by simp [stAt, stepAll, stAt_len ms x i]
/-- nothing overflows in the first n steps -/
def RingOk (ms : List M4) (x : Nat → Nat) (n : Nat) : Prop :=
  ∀ i, i < n → (∀ (k : Nat) m s, ms[k]? = some m → (stAt ms x i)[k]? = some s → StepOk m s (x i)) ∧ SumOk (stAt ms x (i + 1))
def ringS (ms : List M4) (x : Nat → Nat) (n : Nat) : List Nat := (List.range n).map fun i => outS (stAt ms x (i + 1))

def RingP (B : Nat) (outs : List Nat) (w : World) (e : Ending) (w' : World) : Prop :=
  ∃ v : Value, e = .returned (.tuple #[v, .bool true]) ∧ w'.ownsRow B 22 1 v outs.length (cellsS outs) ∧ Nw w w'

/-- the outputs when k steps are done -/
def outsAt (ms : List M4) (x : Nat → Nat) (n k : Nat) : List Nat := (ringS ms x n).take k ++ List.replicate (n - k) 0
theorem outsAt_zero (ms : List M4) (x : Nat → Nat) (n : Nat) : outsAt ms x n 0 = List.replicate n 0 := by simp [outsAt]
theorem outsAt_full (ms : List M4) (x : Nat → Nat) (n : Nat) : outsAt ms x n n = ringS ms x n := by
  unfold outsAt; rw [List.take_of_length_le (by simp [ringS])]; simp
theorem outsAt_set (ms : List M4) (x : Nat → Nat) (n k : Nat) (h : k < n) : (cellsS (outsAt ms x n k)).set k (.float .f32 (outS (stAt ms x (k + 1)))) = cellsS (outsAt ms x n (k + 1)) := by
  have hk : k < (ringS ms x n).length := by simpa [ringS] using h
  have hv : (ringS ms x n)[k] = outS (stAt ms x (k + 1)) := by simp [ringS]
  unfold outsAt
  rw [List.take_succ_eq_append_getElem hk, hv, show n - k = (n - (k + 1)) + 1 from by omega, List.replicate_succ]
  simp only [cellsS, List.map_append, List.map_cons, List.map_nil, List.append_assoc, List.singleton_append]
  rw [List.set_append_right _ _ (by simp [ringS]; omega)]
  simp [ringS, show k - min k n = 0 from by omega]

theorem outs_cell (ms : List M4) (x : Nat → Nat) (n k : Nat) (h : k < n) : (cellsS (outsAt ms x n k))[k]? = some (.float .f32 0) := by
  unfold outsAt cellsS
  rw [List.getElem?_map, List.getElem?_append_right (by simp [ringS]; omega)]
  simp [ringS, List.getElem?_replicate]
  omega

theorem nw_grown {w wr w' w6 : World} {g : Nat} (h : Nw w wr) (hd : Nw wr w') (hg : w'.grownBy w6 (some g)) (hge : w.heap.size ≤ g) : Nw w w6 := by
  have h2 := h.trans hd
  exact ⟨hg.os.trans h2.os, hg.tape.trans h2.tape, hg.output.trans h2.output, Nat.le_trans h2.size hg.size, fun k hk hne => (hg.block k (Nat.lt_of_lt_of_le hk h2.size) (fun e => by cases e; omega)).trans (h2.block k hk hne)⟩

/-- .. and the row is no nil slice -/
def RingP2 (B : Nat) (outs : List Nat) (n : Nat) (w : World) (e : Ending) (w' : World) : Prop :=
  ∃ g : Nat, e = .returned (.tuple #[.slice (some ⟨g, 0, none⟩) n n, .bool true]) ∧ w'.ownsRow B 22 1 (.slice (some ⟨g, 0, none⟩) n n) n (cellsS outs) ∧ Nw w w'

end Go.Proofs.YtjmignhcfmdcaaaDoor
