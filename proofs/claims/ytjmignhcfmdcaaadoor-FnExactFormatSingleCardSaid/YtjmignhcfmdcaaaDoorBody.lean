/- The walk of what draws bodies: the result's modes are valid, and lie in memory of its own.
   Conditions: those that each statement names. -/
import Derived.Test.YtjmignhcfmdcaaaDoorBeat
namespace Go.Proofs.YtjmignhcfmdcaaaDoor
set_option linter.unusedSimpArgs false
set_option linter.unusedVariables false
open Go Go.RowKit

structure M4 where
  pr : Nat
  pi : Nat
  gr : Nat
  gi : Nat
def M4.ok (m : M4) : Prop := Valid m.pr m.pi m.gr m.gi
def M4.cells (m : M4) : List Value := [.complex .f32 m.pr m.pi, .complex .f32 m.gr m.gi]
def cellsM (ms : List M4) : List Value := ms.flatMap M4.cells
theorem cellsM_len (ms : List M4) : (cellsM ms).length = ms.length * 2 := by
  induction ms with
  | nil => rfl
  | cons m ms ih => simp only [cellsM, List.flatMap_cons, List.length_append, List.length_cons] at *; simp [M4.cells] at *; omega
theorem cellsM_snoc (ms : List M4) (m : M4) : cellsM (ms ++ [m]) = cellsM ms ++ m.cells := by simp [cellsM]
theorem cellsM_at (ms : List M4) (k : Nat) (m : M4) (h : ms[k]? = some m) : (cellsM ms)[2 * k]? = some (.complex .f32 m.pr m.pi) ∧ (cellsM ms)[2 * k + 1]? = some (.complex .f32 m.gr m.gi) := by
  induction ms generalizing k with
  | nil => simp at h
  | cons a ms ih =>
    cases k with
    | zero => simp at h; subst h; simp [cellsM, M4.cells]
    | succ k =>
      have := ih k (by simpa using h)
      rw [show 2 * (k + 1) = 2 * k + 2 from by omega, show 2 * k + 2 + 1 = 2 * k + 1 + 2 from by omega]
      simpa [cellsM, M4.cells] using this

theorem At.grown {B : Nat} {w0 : World} {a : Option Addr} {len cap c base : Nat} {w w1 : World} {row : Option Nat} (h : At B w0 a len cap c w) (hg : w.grownBy w1 row) (hr : ∀ k, row = some k → base ≤ k) (hc : c < base) (hB : B ≤ base) (hw : w0.heap.size ≤ base) : At B w0 a len cap c w1 := by
  obtain ⟨⟨h1, h2, h3, i, j, h4, h5, h6, h7, h8, h9, h10⟩, hk⟩ := h
  have hb : w1.heap[c]? = w.heap[c]? := hg.block c h2 (fun e => by have := hr c e.symm; omega)
  have k : ∀ q : Addr, q.block = c → w1.cell? q = w.cell? q := fun q hq => World.cell?_of_block (w := w) (by rw [hq]; exact hb)
  have f : ∀ q : Addr, q.block = c → w1.frozen? q = w.frozen? q := fun q hq => World.frozen?_of_block (w := w) (by rw [hq]; exact hb)
  have hs := hg.size
  exact ⟨⟨h1, by omega, h3.below ⟨hg.os, hg.tape, hg.output, hg.size, fun q hq => hg.block q (by omega) (fun e => by have := hr q e.symm; omega)⟩, i, j, h4, by rw [k _ rfl]; exact h5, by rw [k _ rfl]; exact h6, by rw [k _ rfl]; exact h7, by rw [f _ rfl]; exact h8, by rw [f _ rfl]; exact h9, by rw [f _ rfl]; exact h10⟩,
    hg.os.trans hk.os, hg.tape.trans hk.tape, hg.output.trans hk.output, by have := hk.size; omega, fun q hq hne => (hg.block q (by have := hk.size; omega) (fun e => by have := hr q e.symm; omega)).trans (hk.block q hq hne)⟩

/-- block b holds one cell -/
def Has1 (w : World) (b : Nat) (v : Value) : Prop := b < w.heap.size ∧ w.cell? ⟨b, 0, none⟩ = some v ∧ w.frozen? ⟨b, 0, none⟩ = false
theorem Has1.of {w w' : World} {b : Nat} {v : Value} (h : Has1 w b v) (hs : w.heap.size ≤ w'.heap.size) (hb : w'.heap[b]? = w.heap[b]?) : Has1 w' b v := by
  obtain ⟨h0, h1, h3⟩ := h
  have k : ∀ p : Addr, p.block = b → w'.cell? p = w.cell? p := fun p hp => World.cell?_of_block (w := w) (by rw [hp]; exact hb)
  have f : ∀ p : Addr, p.block = b → w'.frozen? p = w.frozen? p := fun p hp => World.frozen?_of_block (w := w) (by rw [hp]; exact hb)
  exact ⟨by omega, by rw [k _ rfl]; exact h1, by rw [f _ rfl]; exact h3⟩
theorem Has1.kp {c : Nat} {w w' : World} {b : Nat} {v : Value} (h : Has1 w b v) (hk : Kp c w w') (hne : b ≠ c) : Has1 w' b v := h.of hk.size (hk.block b h.1 (fun e => hne (by cases e; rfl)))
theorem Has1.nw {w w' : World} {b : Nat} {v : Value} (h : Has1 w b v) (hk : Nw w w') : Has1 w' b v := h.of hk.size (hk.block b h.1 (by simp))
theorem Has1.grown {w w' : World} {b : Nat} {v : Value} {row : Option Nat} (h : Has1 w b v) (hk : w.grownBy w' row) (hr : row ≠ some b) : Has1 w' b v := h.of hk.size (hk.block b h.1 (fun e => hr e.symm))
theorem Has1.alloc {w : World} {b : Nat} {v : Value} (h : Has1 w b v) (o : Obj) : Has1 (w.alloc o) b v := h.nw ((Nw.refl _).alloc _)
theorem Has1.draw {w : World} {b : Nat} {v : Value} (h : Has1 w b v) (n : Nat) : Has1 (w.drewN n) b v := h.nw ((Nw.refl _).draw _)
theorem Has1.set {w : World} {b : Nat} {v : Value} (h : Has1 w b v) {p : Addr} (hp : p.block ≠ b) (u : Value) : Has1 (w.setCell p u) b v :=
  h.of (by simp [World.setCell]) (Below.heap_setCell _ _ _ _ (fun e => hp e.symm))
theorem Has1.put {w : World} {b : Nat} {v : Value} (h : Has1 w b v) (u : Value) : Has1 (w.setCell ⟨b, 0, none⟩ u) b u := by
  obtain ⟨h0, h1, h2⟩ := h
  refine ⟨by simpa using h0, ?_, ?_⟩ <;> go_simp
theorem Has1.new (w : World) (T : TypeId) (v : Value) : Has1 (w.alloc (.cells #[v] T (0, 0))) w.heap.size v := by
  refine ⟨by simp, ?_, ?_⟩ <;> go_simp

section
variable {w w' : World} {base : Nat} {E : TypeId} {size : Nat} {v : Value} {n : Nat} {xs : List Value}
theorem own_shape (h : w.ownsRow base E size v n xs) : ∃ a l c, v = .slice a l c := by
  rcases h.2 with ⟨rfl, _⟩ | ⟨g, cap, cur, rfl, _⟩
  · exact ⟨_, _, _, rfl⟩
  · exact ⟨_, _, _, rfl⟩
theorem own_ge (h : w.ownsRow base E size v n xs) (k : Nat) (hk : v.ownBlock = some k) : base ≤ k := (h.lt k hk).1
theorem own_kp {c : Nat} (h : w.ownsRow base E size v n xs) (hk : Kp c w w') (hc : c < base) : w'.ownsRow base E size v n xs := by
  refine h.kept hk ?_
  cases hv : v.ownBlock with
  | none => exact .inl rfl
  | some k => right; intro e; cases e; have := own_ge h _ hv; omega
theorem own_nw (h : w.ownsRow base E size v n xs) (hk : Nw w w') : w'.ownsRow base E size v n xs := h.kept hk (by cases hv : v.ownBlock <;> simp)
theorem own_set (h : w.ownsRow base E size v n xs) {p : Addr} (hp : p.block < base) (u : Value) : (w.setCell p u).ownsRow base E size v n xs := ownsRow_setCell_below h hp u
theorem own_base {b' : Nat} (h : w.ownsRow base E size v n xs) (hb : b' ≤ base) : w.ownsRow b' E size v n xs := by
  refine ⟨h.1, ?_⟩
  rcases h.2 with h | ⟨g, cap, cur, hv, hg, r⟩
  · exact .inl h
  · exact .inr ⟨g, cap, cur, hv, by omega, r⟩
end
theorem At.nw {B : Nat} {w0 : World} {a : Option Addr} {len cap c : Nat} {w w1 : World} (h : At B w0 a len cap c w) (hg : Nw w w1) : At B w0 a len cap c w1 :=
  h.grown (base := max (c + 1) (max B w0.heap.size)) hg (fun k hk => by cases hk) (by omega) (by omega) (by omega)

end Go.Proofs.YtjmignhcfmdcaaaDoor
