/- The walks of what draws modes, and of what tests them.
   Conditions: those that each statement names. -/
import Derived.Test.YtjmignhcfmdcaaaDoorMake
import Derived.Test.YtjmignhcfmdcaaaDoorSin
import Derived.Deep.RegionHeld3
namespace Go.Proofs.YtjmignhcfmdcaaaDoor
set_option linter.unusedSimpArgs false
set_option linter.unusedVariables false
open Go Go.RowKit

/-- a number of single precision, whatever its bits -/
def SinP (B : Nat) (w0 : World) (a : Option Addr) (len cap c : Nat) (e : Ending) (w' : World) : Prop :=
  ∃ x y : Nat, e = .returned (.complex .f32 x y) ∧ At B w0 a len cap c w'
/-- n integers from the head of block g on -/
def Ints (w : World) (g n : Nat) : Prop := ∀ k, k < n → ∃ z : Int, w.cell? ⟨g, k, none⟩ = some (.int .i64 z)
def IntP (B : Nat) (w0 : World) (a : Option Addr) (len cap c : Nat) (e : Ending) (w' : World) : Prop :=
  ∃ x : Int, e = .returned (.int .i64 x) ∧ At B w0 a len cap c w'
theorem ints4 (w : World) (T : TypeId) (z0 z1 z2 z3 : Int) : Ints ((w.alloc (.cells #[.int .i64 z0, .int .i64 z1, .int .i64 z2, .int .i64 z3] T (0, 0))).drewN 1) w.heap.size 4 := by
  intro k hk
  match k, hk with
  | 0, _ => exact ⟨z0, by go_simp⟩
  | 1, _ => exact ⟨z1, by go_simp⟩
  | 2, _ => exact ⟨z2, by go_simp⟩
  | 3, _ => exact ⟨z3, by go_simp⟩

/-! ### small functions on numbers -/
def ModeP (P : Nat → Nat → Nat → Nat → Prop) (w : World) (e : Ending) (w' : World) : Prop :=
  ∃ pr pi gr gi : Nat, e = .returned (.agg #[.complex .f32 pr pi, .complex .f32 gr gi]) ∧ P pr pi gr gi ∧ Nw w w'
def TestP (b : Bool) (w : World) (e : Ending) (w' : World) : Prop := e = .returned (.bool b) ∧ Nw w w'

def AggP (B : Nat) (w0 : World) (a : Option Addr) (len cap c : Nat) (e : Ending) (w' : World) : Prop :=
  ∃ pr pi gr gi : Nat, e = .returned (.agg #[.complex .f32 pr pi, .complex .f32 gr gi]) ∧ At B w0 a len cap c w'
theorem At.alloc {B : Nat} {w0 : World} {a : Option Addr} {len cap c : Nat} {w : World} (h : At B w0 a len cap c w) (o : Obj) : At B w0 a len cap c (w.alloc o) := by
  obtain ⟨⟨h1, h2, h3, i, j, h4, h5, h6, h7, h8, h9, h10⟩, hk⟩ := h
  have k : ∀ p, p.block = c → (w.alloc o).cell? p = w.cell? p := fun p hp => World.cell?_of_block (w := w) (Below.heap_alloc _ _ _ (by omega))
  have f : ∀ p, p.block = c → (w.alloc o).frozen? p = w.frozen? p := fun p hp => World.frozen?_of_block (w := w) (Below.heap_alloc _ _ _ (by omega))
  exact ⟨⟨h1, by simp; omega, h3.below ((Below.refl _ _).alloc (by omega) _), i, j, h4, by rw [k _ rfl]; exact h5, by rw [k _ rfl]; exact h6, by rw [k _ rfl]; exact h7, by rw [f _ rfl]; exact h8, by rw [f _ rfl]; exact h9, by rw [f _ rfl]; exact h10⟩, hk.alloc o⟩

/-- block b holds a mode -/
def HasMode (w : World) (b : Nat) (pr pi gr gi : Nat) : Prop :=
  b < w.heap.size ∧ w.cell? ⟨b, 0, none⟩ = some (.complex .f32 pr pi) ∧ w.cell? ⟨b, 1, none⟩ = some (.complex .f32 gr gi) ∧ w.frozen? ⟨b, 0, none⟩ = false ∧ w.frozen? ⟨b, 1, none⟩ = false
theorem HasMode.of {w w' : World} {b pr pi gr gi : Nat} (h : HasMode w b pr pi gr gi) (hs : w.heap.size ≤ w'.heap.size) (hb : w'.heap[b]? = w.heap[b]?) : HasMode w' b pr pi gr gi := by
  obtain ⟨h0, h1, h2, h3, h4⟩ := h
  have k : ∀ p : Addr, p.block = b → w'.cell? p = w.cell? p := fun p hp => World.cell?_of_block (w := w) (by rw [hp]; exact hb)
  have f : ∀ p : Addr, p.block = b → w'.frozen? p = w.frozen? p := fun p hp => World.frozen?_of_block (w := w) (by rw [hp]; exact hb)
  exact ⟨by omega, by rw [k _ rfl]; exact h1, by rw [k _ rfl]; exact h2, by rw [f _ rfl]; exact h3, by rw [f _ rfl]; exact h4⟩
theorem HasMode.kp {c : Nat} {w w' : World} {b pr pi gr gi : Nat} (h : HasMode w b pr pi gr gi) (hk : Kp c w w') (hne : b ≠ c) : HasMode w' b pr pi gr gi :=
  h.of hk.size (hk.block b h.1 (fun e => hne (by cases e; rfl)))
theorem HasMode.nw {w w' : World} {b pr pi gr gi : Nat} (h : HasMode w b pr pi gr gi) (hk : Nw w w') : HasMode w' b pr pi gr gi :=
  h.of hk.size (hk.block b h.1 (by simp))
theorem HasMode.draw {w : World} {b pr pi gr gi : Nat} (h : HasMode w b pr pi gr gi) (n : Nat) : HasMode (w.drewN n) b pr pi gr gi := h.nw ((Nw.refl _).draw _)
theorem HasMode.alloc {w : World} {b pr pi gr gi : Nat} (h : HasMode w b pr pi gr gi) (o : Obj) : HasMode (w.alloc o) b pr pi gr gi := h.nw ((Nw.refl _).alloc _)
theorem HasMode.set {w : World} {b pr pi gr gi : Nat} (h : HasMode w b pr pi gr gi) {p : Addr} (hp : p.block ≠ b) (u : Value) : HasMode (w.setCell p u) b pr pi gr gi :=
  h.of (by simp [World.setCell]) (Below.heap_setCell _ _ _ _ (fun e => hp e.symm))
theorem HasMode.new (w : World) (T : TypeId) (pr pi gr gi : Nat) : HasMode (w.alloc (.cells #[.complex .f32 pr pi, .complex .f32 gr gi] T (0, 0))) w.heap.size pr pi gr gi := by
  refine ⟨by simp, ?_, ?_, ?_, ?_⟩ <;> go_simp
theorem HasMode.set0 {w : World} {b pr pi gr gi : Nat} (h : HasMode w b pr pi gr gi) (x y : Nat) : HasMode (w.setCell ⟨b, 0, none⟩ (.complex .f32 x y)) b x y gr gi := by
  obtain ⟨h0, h1, h2, h3, h4⟩ := h
  refine ⟨by simpa using h0, ?_, ?_, ?_, ?_⟩ <;> go_simp
theorem HasMode.set1 {w : World} {b pr pi gr gi : Nat} (h : HasMode w b pr pi gr gi) (x y : Nat) : HasMode (w.setCell ⟨b, 1, none⟩ (.complex .f32 x y)) b pr pi x y := by
  obtain ⟨h0, h1, h2, h3, h4⟩ := h
  refine ⟨by simpa using h0, ?_, ?_, ?_, ?_⟩ <;> go_simp

/-- the cursor stands, and two variables of the call's own hold modes: the result, and another -/
def LocM (B : Nat) (w0 : World) (a : Option Addr) (len cap c br bm : Nat) (wx : World) : Prop :=
  At B w0 a len cap c wx ∧ (bm ≠ c ∧ B ≤ bm ∧ w0.heap.size ≤ bm) ∧ br ≠ c ∧ br ≠ bm ∧ (∃ pr pi gr gi, HasMode wx br pr pi gr gi) ∧ ∃ pr pi gr gi, HasMode wx bm pr pi gr gi
theorem At.set {B : Nat} {w0 : World} {a : Option Addr} {len cap c : Nat} {w : World} (h : At B w0 a len cap c w) {p : Addr} (hne : p.block ≠ c) (hB : B ≤ p.block) (hw : w0.heap.size ≤ p.block) (u : Value) : At B w0 a len cap c (w.setCell p u) := by
  obtain ⟨⟨h1, h2, h3, i, j, h4, h5, h6, h7, h8, h9, h10⟩, hk⟩ := h
  have k : ∀ q : Addr, q.block = c → (w.setCell p u).cell? q = w.cell? q := fun q hq => World.cell?_of_block (w := w) (Below.heap_setCell _ _ _ _ (by omega))
  have f : ∀ q : Addr, q.block = c → (w.setCell p u).frozen? q = w.frozen? q := fun q hq => World.frozen?_of_block (w := w) (Below.heap_setCell _ _ _ _ (by omega))
  exact ⟨⟨h1, by simpa using h2, h3.below ((Below.refl _ _).setCell hB _), i, j, h4, by rw [k _ rfl]; exact h5, by rw [k _ rfl]; exact h6, by rw [k _ rfl]; exact h7, by rw [f _ rfl]; exact h8, by rw [f _ rfl]; exact h9, by rw [f _ rfl]; exact h10⟩,
    hk.os, hk.tape, hk.output, by simpa using hk.size, fun q hq hne => by rw [← hk.block q hq hne]; exact Below.heap_setCell _ _ _ _ (by omega)⟩
section
variable {B : Nat} {w0 : World} {a : Option Addr} {len cap c br bm : Nat} {w : World}
theorem LocM.draw (h : LocM B w0 a len cap c br bm w) (n : Nat) : LocM B w0 a len cap c br bm (w.drewN n) := by
  obtain ⟨h1, h2, h3, h4, ⟨r1, r2, r3, r4, hr⟩, m1, m2, m3, m4, hm⟩ := h
  exact ⟨h1.draw n, h2, h3, h4, ⟨_, _, _, _, hr.draw n⟩, _, _, _, _, hm.draw n⟩
theorem LocM.alloc (h : LocM B w0 a len cap c br bm w) (o : Obj) : LocM B w0 a len cap c br bm (w.alloc o) := by
  obtain ⟨h1, h2, h3, h4, ⟨r1, r2, r3, r4, hr⟩, m1, m2, m3, m4, hm⟩ := h
  exact ⟨h1.alloc o, h2, h3, h4, ⟨_, _, _, _, hr.alloc o⟩, _, _, _, _, hm.alloc o⟩
theorem LocM.step {w' : World} (h : LocM B w0 a len cap c br bm w) (g : At B w a len cap c w') : LocM B w0 a len cap c br bm w' := by
  obtain ⟨h1, h2, h3, h4, ⟨r1, r2, r3, r4, hr⟩, m1, m2, m3, m4, hm⟩ := h
  exact ⟨⟨g.1, h1.2.trans g.2⟩, h2, h3, h4, ⟨_, _, _, _, hr.kp g.2 h3⟩, _, _, _, _, hm.kp g.2 h2.1⟩
theorem LocM.set0 (h : LocM B w0 a len cap c br bm w) (x y : Nat) : LocM B w0 a len cap c br bm (w.setCell ⟨bm, 0, none⟩ (.complex .f32 x y)) := by
  obtain ⟨h1, h2, h3, h4, ⟨r1, r2, r3, r4, hr⟩, m1, m2, m3, m4, hm⟩ := h
  exact ⟨h1.set h2.1 h2.2.1 h2.2.2 _, h2, h3, h4, ⟨_, _, _, _, hr.set (fun e => h4 e.symm) _⟩, _, _, _, _, hm.set0 x y⟩
theorem LocM.set1 (h : LocM B w0 a len cap c br bm w) (x y : Nat) : LocM B w0 a len cap c br bm (w.setCell ⟨bm, 1, none⟩ (.complex .f32 x y)) := by
  obtain ⟨h1, h2, h3, h4, ⟨r1, r2, r3, r4, hr⟩, m1, m2, m3, m4, hm⟩ := h
  exact ⟨h1.set h2.1 h2.2.1 h2.2.2 _, h2, h3, h4, ⟨_, _, _, _, hr.set (fun e => h4 e.symm) _⟩, _, _, _, _, hm.set1 x y⟩
end

end Go.Proofs.YtjmignhcfmdcaaaDoor
