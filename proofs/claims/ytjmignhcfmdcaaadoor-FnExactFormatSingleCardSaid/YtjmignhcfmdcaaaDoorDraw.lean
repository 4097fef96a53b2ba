/- The walks of the functions that draw: each returns something in its range, and turns nothing that was there before the cursor.
   Conditions: those that each statement names. -/
import Derived.Test.YtjmignhcfmdcaaaDoorNum
import Derived.Deep.DeepCutAuto
namespace Go.Proofs.YtjmignhcfmdcaaaDoor
set_option linter.unusedSimpArgs false
set_option linter.unusedVariables false
open Go Go.RowKit

/-- a slice of bytes, all of it below block B -/
def Bys (B : Nat) (a : Option Addr) (len : Nat) (w : World) : Prop :=
  len ≤ 140737488351232 ∧ (len = 0 ∨ ∃ blk off, a = some ⟨blk, off, none⟩ ∧ blk < B ∧ ∀ k, k < len → ∃ x : Nat, x ≤ 255 ∧ w.cell? ⟨blk, off + k, none⟩ = some (.int .u8 x))
theorem Bys.below {B : Nat} {a : Option Addr} {len : Nat} {w w' : World} (h : Bys B a len w) (hb : Below B w w') : Bys B a len w' := by
  obtain ⟨h0, h⟩ := h
  refine ⟨h0, ?_⟩
  rcases h with h | ⟨blk, off, h1, h2, h3⟩
  · exact .inl h
  · refine .inr ⟨blk, off, h1, h2, fun k hk => ?_⟩
    obtain ⟨x, hx, hc⟩ := h3 k hk
    exact ⟨x, hx, by rw [hb.cell (p := ⟨blk, off + k, none⟩) h2]; exact hc⟩
theorem Bys.mono {B B' : Nat} {a : Option Addr} {len : Nat} {w : World} (h : Bys B a len w) (hb : B ≤ B') : Bys B' a len w := by
  obtain ⟨h0, h⟩ := h
  refine ⟨h0, ?_⟩
  rcases h with h | ⟨blk, off, h1, h2, h3⟩
  · exact .inl h
  · exact .inr ⟨blk, off, h1, by omega, h3⟩

/-- a cursor over it, in block c -/
def Cur (B : Nat) (a : Option Addr) (len cap : Nat) (c : Nat) (w : World) : Prop :=
  B ≤ c ∧ c < w.heap.size ∧ Bys B a len w ∧ ∃ i : Nat, ∃ h : Int, i ≤ len ∧
    w.cell? ⟨c, 0, none⟩ = some (.slice a len cap) ∧ w.cell? ⟨c, 1, none⟩ = some (.int .i64 i) ∧ w.cell? ⟨c, 2, none⟩ = some (.int .i64 h) ∧
    w.frozen? ⟨c, 0, none⟩ = false ∧ w.frozen? ⟨c, 1, none⟩ = false ∧ w.frozen? ⟨c, 2, none⟩ = false

/-- of what was there, block c alone may have turned -/
def Kp (c : Nat) (w w' : World) : Prop := w.grownBy w' (some c)
theorem Kp.refl (c : Nat) (w : World) : Kp c w w := World.grownBy.refl w _
theorem Kp.trans {c : Nat} {a b d : World} (h : Kp c a b) (k : Kp c b d) : Kp c a d :=
  ⟨k.os.trans h.os, k.tape.trans h.tape, k.output.trans h.output, Nat.le_trans h.size k.size, fun i hi hne => (k.block i (Nat.lt_of_lt_of_le hi h.size) hne).trans (h.block i hi hne)⟩
theorem Kp.set {c : Nat} {a w : World} (h : Kp c a w) (o : Nat) (u : Value) : Kp c a (w.setCell ⟨c, o, none⟩ u) :=
  h.trans ⟨rfl, rfl, rfl, by simp [World.setCell], fun k _ hne => Below.heap_setCell _ _ _ _ (fun e => hne (by rw [e]))⟩
theorem Kp.draw {c : Nat} {a w : World} (h : Kp c a w) (n : Nat) : Kp c a (w.drewN n) :=
  h.trans ⟨rfl, rfl, rfl, Nat.le_refl _, fun _ _ _ => rfl⟩
theorem Kp.alloc {c : Nat} {a w : World} (h : Kp c a w) (o : Obj) : Kp c a (w.alloc o) := h.trans (World.grownBy_alloc w o _)
theorem Kp.below {B c : Nat} {w w' : World} (h : Kp c w w') (hB : B ≤ w.heap.size) (hc : B ≤ c) : Below B w w' :=
  ⟨h.os, h.tape, h.output, h.size, fun k hk => h.block k (by omega) (fun e => by cases e; omega)⟩
theorem Kp.cell {c : Nat} {w w' : World} (h : Kp c w w') {p : Addr} (hp : p.block < w.heap.size) (hne : p.block ≠ c) : w'.cell? p = w.cell? p :=
  World.cell?_of_block (w := w) (h.block p.block hp (fun e => hne (by cases e; rfl)))
theorem Kp.frozen {c : Nat} {w w' : World} (h : Kp c w w') {p : Addr} (hp : p.block < w.heap.size) (hne : p.block ≠ c) : w'.frozen? p = w.frozen? p :=
  World.frozen?_of_block (w := w) (h.block p.block hp (fun e => hne (by cases e; rfl)))

def BytePost (B : Nat) (a : Option Addr) (len cap c : Nat) (w : World) (e : Ending) (w' : World) : Prop :=
  ∃ x : Int, 0 ≤ x ∧ x ≤ 255 ∧ e = .returned (.int .i64 x) ∧ Cur B a len cap c w' ∧ Kp c w w'

theorem and255 (y : Int) : 0 ≤ bits .and .i64 y 255 ∧ bits .and .i64 y 255 ≤ 255 := by
  have h : (BitVec.ofInt 64 y &&& BitVec.ofInt 64 255).toNat ≤ 255 := by
    rw [BitVec.toNat_and, show (BitVec.ofInt 64 255).toNat = 255 from rfl]
    exact Nat.and_le_right
  have e : bits .and .i64 y 255 = IntKind.i64.wrap ((BitVec.ofInt 64 y &&& BitVec.ofInt 64 255).toNat : Int) := rfl
  rw [e, IntWalk.i64_in _ (by omega)]
  omega

theorem cell_set {w : World} {c o : Nat} {v u : Value} (h : w.cell? ⟨c, o, none⟩ = some u) : (w.setCell ⟨c, o, none⟩ v).cell? ⟨c, o, none⟩ = some v := by
  go_simp

theorem cur_hash {B : Nat} {a : Option Addr} {len cap c : Nat} {w : World} {i : Nat} {h : Int} (hB : B ≤ c) (hsz : c < w.heap.size) (hby : Bys B a len w) (hi1 : i ≤ len)
    (h0 : w.cell? ⟨c, 0, none⟩ = some (.slice a len cap)) (h1 : w.cell? ⟨c, 1, none⟩ = some (.int .i64 i)) (h2 : w.cell? ⟨c, 2, none⟩ = some (.int .i64 h))
    (f0 : w.frozen? ⟨c, 0, none⟩ = false) (f1 : w.frozen? ⟨c, 1, none⟩ = false) (f2 : w.frozen? ⟨c, 2, none⟩ = false) (h' : Int) (n : Nat) :
    Cur B a len cap c ((w.setCell ⟨c, 2, none⟩ (.int .i64 h')).drewN n) := by
  refine ⟨hB, by simpa using hsz, ?_, i, h', hi1, ?_, ?_, ?_, ?_, ?_, ?_⟩
  · exact (hby.below (below_drewN ((Below.refl B w).setCell hB _) n))
  all_goals go_simp

theorem cur_byte {B : Nat} {a : Option Addr} {len cap c : Nat} {w : World} {i : Nat} {h : Int} (hB : B ≤ c) (hsz : c < w.heap.size) (hby : Bys B a len w) (hi1 : i < len)
    (h0 : w.cell? ⟨c, 0, none⟩ = some (.slice a len cap)) (h1 : w.cell? ⟨c, 1, none⟩ = some (.int .i64 i)) (h2 : w.cell? ⟨c, 2, none⟩ = some (.int .i64 h))
    (f0 : w.frozen? ⟨c, 0, none⟩ = false) (f1 : w.frozen? ⟨c, 1, none⟩ = false) (f2 : w.frozen? ⟨c, 2, none⟩ = false) (h' : Int) (n : Nat) :
    Cur B a len cap c (((w.setCell ⟨c, 2, none⟩ (.int .i64 h')).drewN n).setCell ⟨c, 1, none⟩ (.int .i64 (i + 1))) := by
  refine ⟨hB, by simpa using hsz, ?_, i + 1, h', hi1, ?_, ?_, ?_, ?_, ?_, ?_⟩
  · exact (hby.below ((below_drewN ((Below.refl B w).setCell hB _) n).setCell hB _))
  all_goals go_simp

/-- the cursor stands in world w, and but for its block all is as it was in w0 -/
def At (B : Nat) (w0 : World) (a : Option Addr) (len cap c : Nat) (w : World) : Prop := Cur B a len cap c w ∧ Kp c w0 w
theorem At.below {B : Nat} {w0 : World} {a : Option Addr} {len cap c : Nat} {w : World} (h : At B w0 a len cap c w) (hB : B ≤ w0.heap.size) : Below B w0 w := h.2.below hB h.1.1
theorem At.here {B : Nat} {w0 : World} {a : Option Addr} {len cap c : Nat} {w : World} (h : At B w0 a len cap c w) : At B w a len cap c w := ⟨h.1, Kp.refl _ _⟩
theorem At.kp {B : Nat} {w0 : World} {a : Option Addr} {len cap c : Nat} {w : World} (h : At B w0 a len cap c w) : Kp c w0 w := h.2
theorem At.draw {B : Nat} {w0 : World} {a : Option Addr} {len cap c : Nat} {w : World} (h : At B w0 a len cap c w) (n : Nat) : At B w0 a len cap c (w.drewN n) :=
  ⟨⟨h.1.1, h.1.2.1, h.1.2.2.1.below (below_drewN (Below.refl _ _) n), h.1.2.2.2⟩, h.2.draw n⟩

def ByteP (B : Nat) (w0 : World) (a : Option Addr) (len cap c : Nat) (e : Ending) (w' : World) : Prop :=
  ∃ x : Int, 0 ≤ x ∧ x ≤ 255 ∧ e = .returned (.int .i64 x) ∧ At B w0 a len cap c w'
def BelowP (B : Nat) (w0 : World) (a : Option Addr) (len cap c : Nat) (m : Int) (e : Ending) (w' : World) : Prop :=
  ∃ x : Int, 0 ≤ x ∧ x < m ∧ e = .returned (.int .i64 x) ∧ At B w0 a len cap c w'
def OnceP (B : Nat) (w0 : World) (a : Option Addr) (len cap c : Nat) (e : Ending) (w' : World) : Prop :=
  ∃ b : Bool, e = .returned (.bool b) ∧ At B w0 a len cap c w'
def FloP (B : Nat) (w0 : World) (a : Option Addr) (len cap c : Nat) (e : Ending) (w' : World) : Prop :=
  ∃ b : Nat, e = .returned (.float .f64 b) ∧ b < 2 ^ 64 ∧ At B w0 a len cap c w'
theorem floatOfInt_lt (n : Int) : floatOfInt .f64 n < 2 ^ 64 := by
  unfold floatOfInt FloatKind.nearest FloatKind.encode; exact Ieee.Format.write_lt _ _
def CxP (B : Nat) (w0 : World) (a : Option Addr) (len cap c : Nat) (e : Ending) (w' : World) : Prop :=
  ∃ x y : Nat, e = .returned (.complex .f64 x y) ∧ x < 2 ^ 64 ∧ y < 2 ^ 64 ∧ At B w0 a len cap c w'

end Go.Proofs.YtjmignhcfmdcaaaDoor
