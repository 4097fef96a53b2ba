/- The walks of stepStates, IsBody and RingBody, where nothing overflows: bit for bit.
   Conditions: those that each statement names. -/
import Derived.Test.YtjmignhcfmdcaaaDoorStep
namespace Go.Proofs.YtjmignhcfmdcaaaDoor
set_option linter.unusedSimpArgs false
set_option linter.unusedVariables false
open Go Go.RowKit

/-! ### the bits of ringing -/
def stepAll (ms : List M4) (ss : List (Nat × Nat)) (x : Nat) : List (Nat × Nat) := List.zipWith (fun m s => stepS m s x) ms ss
def outS (ss : List (Nat × Nat)) : Nat := ss.foldl (fun y s => opB .add .f32 y s.1) 0
def cellsC (ss : List (Nat × Nat)) : List Value := ss.map fun s => .complex .f32 s.1 s.2

/-- nothing overflows as the outputs are summed -/
def SumOk (ss : List (Nat × Nat)) : Prop := ∀ (k : Nat) s, ss[k]? = some s → Calm .add .f32 (outS (ss.take k)) s.1
theorem outS_take (ss : List (Nat × Nat)) (k : Nat) (s : Nat × Nat) (h : ss[k]? = some s) : outS (ss.take (k + 1)) = opB .add .f32 (outS (ss.take k)) s.1 := by
  have hk := (List.getElem?_eq_some_iff.1 h)
  obtain ⟨hk, he⟩ := hk
  rw [List.take_succ_eq_append_getElem hk, he]
  simp [outS, List.foldl_append]

/-- the states when k modes have been stepped -/
def mixed (ms : List M4) (ss : List (Nat × Nat)) (x k : Nat) : List (Nat × Nat) := (stepAll ms ss x).take k ++ ss.drop k

theorem own_shape' {w : World} {base : Nat} {E : TypeId} {size : Nat} {v : Value} {n : Nat} {xs : List Value} (h : w.ownsRow base E size v n xs) : ∃ a c, v = .slice a n c := by
  rcases h.2 with ⟨rfl, rfl⟩ | ⟨g, cap, cur, rfl, _⟩
  · exact ⟨_, _, rfl⟩
  · exact ⟨_, _, rfl⟩

theorem mixed_at (ms : List M4) (ss : List (Nat × Nat)) (x k : Nat) (s : Nat × Nat) (hl : ms.length = ss.length) (h : ss[k]? = some s) : (cellsC (mixed ms ss x k))[k]? = some (.complex .f32 s.1 s.2) := by
  have hk := (List.getElem?_eq_some_iff.1 h).1
  have hlen : ((stepAll ms ss x).take k).length = k := by simp [stepAll]; omega
  unfold mixed cellsC
  rw [List.getElem?_map, List.getElem?_append_right (by omega), hlen, Nat.sub_self, List.getElem?_drop, Nat.add_zero, h]
  rfl

theorem _root_.Go.World.grownBy.trans' {a b c : World} {row : Option Nat} (h : a.grownBy b row) (k : b.grownBy c row) : a.grownBy c row :=
  ⟨k.os.trans h.os, k.tape.trans h.tape, k.output.trans h.output, Nat.le_trans h.size k.size, fun i hi hne => (k.block i (Nat.lt_of_lt_of_le hi h.size) hne).trans (h.block i hi hne)⟩

theorem stepAll_at (ms : List M4) (ss : List (Nat × Nat)) (x k : Nat) (m : M4) (s : Nat × Nat) (hm : ms[k]? = some m) (hs : ss[k]? = some s) : (stepAll ms ss x)[k]? = some (stepS m s x) := by
  unfold stepAll; rw [List.getElem?_zipWith, hm, hs]
theorem mixed_step (ms : List M4) (ss : List (Nat × Nat)) (x k : Nat) (m : M4) (s : Nat × Nat) (hm : ms[k]? = some m) (hs : ss[k]? = some s) :
    (cellsC (mixed ms ss x k)).set k (.complex .f32 (stepS m s x).1 (stepS m s x).2) = cellsC (mixed ms ss x (k + 1)) := by
  obtain ⟨hkm, -⟩ := List.getElem?_eq_some_iff.1 hm
  obtain ⟨hks, hse⟩ := List.getElem?_eq_some_iff.1 hs
  have hlen : ((stepAll ms ss x).take k).length = k := by simp [stepAll]; omega
  have hat := stepAll_at ms ss x k m s hm hs
  obtain ⟨hka, hae⟩ := List.getElem?_eq_some_iff.1 hat
  unfold mixed
  rw [List.take_succ_eq_append_getElem hka, hae, List.drop_eq_getElem_cons hks, hse]
  simp only [cellsC, List.map_append, List.map_cons, List.map_nil, List.append_assoc, List.singleton_append]
  rw [List.set_append_right _ _ (by simp [stepAll]; omega)]
  simp [stepAll, show k - min k (min ms.length ss.length) = 0 from by omega]
theorem mixed_after (ms : List M4) (ss : List (Nat × Nat)) (x k : Nat) (m : M4) (s : Nat × Nat) (hm : ms[k]? = some m) (hs : ss[k]? = some s) :
    (cellsC (mixed ms ss x (k + 1)))[k]? = some (.complex .f32 (stepS m s x).1 (stepS m s x).2) := by
  obtain ⟨hkm, -⟩ := List.getElem?_eq_some_iff.1 hm
  obtain ⟨hks, hse⟩ := List.getElem?_eq_some_iff.1 hs
  rw [← mixed_step ms ss x k m s hm hs, List.getElem?_set_self]
  simp [cellsC, mixed, stepAll]; omega
theorem mixed_full (ms : List M4) (ss : List (Nat × Nat)) (x : Nat) (hl : ms.length = ss.length) : mixed ms ss x ms.length = stepAll ms ss x := by
  unfold mixed
  rw [List.take_of_length_le (by simp [stepAll]; omega), List.drop_of_length_le (by omega), List.append_nil]

theorem grown_cell {w w' : World} {row : Option Nat} (h : w.grownBy w' row) {p : Addr} (hp : p.block < w.heap.size) (hne : some p.block ≠ row) : w'.cell? p = w.cell? p :=
  World.cell?_of_block (w := w) (h.block p.block hp hne)
theorem grown_frozen {w w' : World} {row : Option Nat} (h : w.grownBy w' row) {p : Addr} (hp : p.block < w.heap.size) (hne : some p.block ≠ row) : w'.frozen? p = w.frozen? p :=
  World.frozen?_of_block (w := w) (h.block p.block hp hne)

end Go.Proofs.YtjmignhcfmdcaaaDoor
