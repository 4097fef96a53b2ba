/- Texts of a proof, put together: Run, Flo, Div, Num, Draw, Make, Sin, Mode, Quo.
   Conditions: those that each statement names. -/
import Derived.WalkKit
import Derived.WalkLawsBesides
import Derived.Deep.Draws
import Derived.Deep.QuietTactic
import Derived.BigQuiet
import Derived.Laws.FloatArith
import Derived.Laws.ComplexQuo
import Derived.Lib.Hide
import Ieee.Arith
import Derived.Laws.FloatBits
import Derived.Test.YtiakcibeobbonaaGreatChecked
import Derived.RowKit
import Derived.Deep.DeepCutAuto
import Derived.Deep.RegionHeld3
/- Laws of the walk for operations on floats and complex numbers that may have a NaN as their result: the result's bits as a function of the world and the operands. No program stands in it.
   Conditions: none beyond those that each statement names. -/
namespace Go.Proofs.YtiakcibeobbonaaGreat
set_option linter.unusedSimpArgs false
set_option linter.unusedVariables false
open Go

/-- how many answers of the tape an operation on floats takes: one where it has no number as its result -/
def fdr (op : BinOp) (k : FloatKind) (x y : Nat) : Nat := if (floatBits op k x y).isSome then 0 else 1
/-- the bits of its result -/
def fres (w : World) (op : BinOp) (k : FloatKind) (x y : Nat) : Nat :=
  match floatBits op k x y with
  | some r => r
  | none => (Question.nanBits k x y).cut (w.tape w.drawn (.nanBits k x y))

theorem run_fl {P : Program} (w : World) (op : BinOp) (hop : op = .add ∨ op = .sub ∨ op = .mul ∨ op = .quo) (k : FloatKind) (x y : Nat) :
    (Op.floatArith op k x y).run P w = .ok (.float k (fres w op k x y)) (w.drewN (fdr op k x y)) := by
  unfold fres fdr floatBits Op.floatArith
  rcases hop with rfl | rfl | rfl | rfl
  · simp only [pure_bind]; cases h : k.format.add x y <;> simp [Question.forced, World.drewN] <;> rfl
  · simp only [pure_bind]; cases h : k.format.sub x y <;> simp [Question.forced, World.drewN] <;> rfl
  · simp only [pure_bind]; cases h : k.format.mul x y <;> simp [Question.forced, World.drewN] <;> rfl
  · simp only [pure_bind]; cases h : k.format.div x y <;> simp [Question.forced, World.drewN] <;> rfl

section
variable {P : Program} (w : World) (t : TypeId) (k : FloatKind) (x y : Nat)
@[go_sem] theorem run_fl_add : (binOp .add t (.float k x) (.float k y)).run P w = .ok (.float k (fres w .add k x y)) (w.drewN (fdr .add k x y)) := by
  simp only [binOp, ne_eq, not_true, if_false]; exact run_fl w .add (.inl rfl) k x y
@[go_sem] theorem run_fl_sub : (binOp .sub t (.float k x) (.float k y)).run P w = .ok (.float k (fres w .sub k x y)) (w.drewN (fdr .sub k x y)) := by
  simp only [binOp, ne_eq, not_true, if_false]; exact run_fl w .sub (.inr (.inl rfl)) k x y
@[go_sem] theorem run_fl_mul : (binOp .mul t (.float k x) (.float k y)).run P w = .ok (.float k (fres w .mul k x y)) (w.drewN (fdr .mul k x y)) := by
  simp only [binOp, ne_eq, not_true, if_false]; exact run_fl w .mul (.inr (.inr (.inl rfl))) k x y
@[go_sem] theorem run_fl_quo : (binOp .quo t (.float k x) (.float k y)).run P w = .ok (.float k (fres w .quo k x y)) (w.drewN (fdr .quo k x y)) := by
  simp only [binOp, ne_eq, not_true, if_false]; exact run_fl w .quo (.inr (.inr (.inr rfl))) k x y
@[go_sem] theorem unary_neg_fl : Op.unary .neg (.float k x) = pure (.float k (Op.negFloat k x)) := rfl
@[go_sem] theorem unary_neg_cx : Op.unary .neg (.complex k x y) = pure (.complex k (Op.negFloat k x) (Op.negFloat k y)) := rfl
end

/-! ### a float without the bits of a NaN -/
/-- what a float is when the bits of NaNs count for nothing -/
def fab (k : FloatKind) (b : Nat) : Option Nat := if (k.decode b).isNaN then none else some b

theorem nan_key : ∀ (f : Ieee.Format) (n r : Nat), f.binade ≤ f.infRung → (r % f.signWeight) > f.infRung → (f.read (n * f.signWeight + r)).isNaN = true := by
  intro f n r hb h
  have e : (n * f.signWeight + r) % f.signWeight = r % f.signWeight := by
    rw [Nat.add_comm, Nat.add_mul_mod_self_right]
  unfold Ieee.Format.read
  simp only [e]
  rw [if_neg (by omega), if_neg (by omega), if_neg (by omega)]
  rfl
theorem nan_cut (k : FloatKind) (x y t : Nat) : (k.decode ((Question.nanBits k x y).cut t)).isNaN = true := by
  cases k
  · have := nan_key Ieee.single (t % 2) (0x7f800000 + 1 + (t / 2) % (2 ^ 23 - 1)) (by decide) (by
      have h : (t / 2) % (2 ^ 23 - 1) < 2 ^ 23 - 1 := Nat.mod_lt _ (by decide)
      rw [show Ieee.single.signWeight = 2 ^ 31 from rfl, show Ieee.single.infRung = 0x7f800000 from by decide]
      rw [Nat.mod_eq_of_lt] <;> omega)
    rw [← Nat.add_assoc, ← Nat.add_assoc] at this
    exact this
  · have := nan_key Ieee.double (t % 2) (0x7ff0000000000000 + 1 + (t / 2) % (2 ^ 52 - 1)) (by decide) (by
      have h : (t / 2) % (2 ^ 52 - 1) < 2 ^ 52 - 1 := Nat.mod_lt _ (by decide)
      rw [show Ieee.double.signWeight = 2 ^ 63 from rfl, show Ieee.double.infRung = 0x7ff0000000000000 from by decide]
      rw [Nat.mod_eq_of_lt] <;> omega)
    rw [← Nat.add_assoc, ← Nat.add_assoc] at this
    exact this
theorem nan_conv (k : FloatKind) (x t : Nat) : (k.decode ((Question.nanConv k x).cut t)).isNaN = true := by
  cases k
  · have := nan_key Ieee.single (t % 2) (0x7f800000 + 1 + (t / 2) % (2 ^ 23 - 1)) (by decide) (by
      have h : (t / 2) % (2 ^ 23 - 1) < 2 ^ 23 - 1 := Nat.mod_lt _ (by decide)
      rw [show Ieee.single.signWeight = 2 ^ 31 from rfl, show Ieee.single.infRung = 0x7f800000 from by decide]
      rw [Nat.mod_eq_of_lt] <;> omega)
    rw [← Nat.add_assoc, ← Nat.add_assoc] at this
    exact this
  · have := nan_key Ieee.double (t % 2) (0x7ff0000000000000 + 1 + (t / 2) % (2 ^ 52 - 1)) (by decide) (by
      have h : (t / 2) % (2 ^ 52 - 1) < 2 ^ 52 - 1 := Nat.mod_lt _ (by decide)
      rw [show Ieee.double.signWeight = 2 ^ 63 from rfl, show Ieee.double.infRung = 0x7ff0000000000000 from by decide]
      rw [Nat.mod_eq_of_lt] <;> omega)
    rw [← Nat.add_assoc, ← Nat.add_assoc] at this
    exact this

/-- an operation on floats without the bits of NaNs -/
def fA (op : BinOp) (k : FloatKind) (x y : Option Nat) : Option Nat :=
  match x, y with
  | some a, some b => floatBits op k a b
  | _, _ => none

theorem word_not_nan (f : Ieee.Format) (neg : Bool) (r : Nat) (h : r ≤ f.infRung) : (f.read (f.word neg r)).isNaN = false := by
  have h1 := f.infRung_lt
  have e : f.word neg r % f.signWeight = r := by
    unfold Ieee.Format.word; split
    · rw [Nat.add_mod_left]; exact Nat.mod_eq_of_lt (by omega)
    · exact Nat.mod_eq_of_lt (by omega)
  unfold Ieee.Format.read
  simp only [e]
  split
  · rfl
  · split
    · rfl
    · rw [if_pos (by omega)]; rfl

theorem write_not_nan (f : Ieee.Format) (d : Ieee.Datum) (h : d.isNaN = false) : (f.read (f.write d)).isNaN = false := by
  cases d with
  | number neg mag place =>
    show (f.read (f.nearest neg mag place)).isNaN = false
    unfold Ieee.Format.nearest
    split
    · exact word_not_nan f neg 0 (Nat.zero_le _)
    · exact word_not_nan f neg _ (Nat.min_le_right _ _)
  | infinity neg => exact word_not_nan f neg _ (Nat.le_refl _)
  | nan neg fr => simp [Ieee.Datum.isNaN] at h

theorem sum_not_nan {a b d : Ieee.Datum} (h : a.sum b = some d) : d.isNaN = false ∧ a.isNaN = false ∧ b.isNaN = false := by
  cases a <;> cases b <;> simp only [Ieee.Datum.sum] at h <;> (try split at h) <;> cases h <;> exact ⟨rfl, rfl, rfl⟩
theorem product_not_nan {a b d : Ieee.Datum} (h : a.product b = some d) : d.isNaN = false ∧ a.isNaN = false ∧ b.isNaN = false := by
  cases a <;> cases b <;> simp only [Ieee.Datum.product] at h <;> (try split at h) <;> cases h <;> exact ⟨rfl, rfl, rfl⟩
theorem quotient_not_nan {n : Nat} {a b d : Ieee.Datum} (h : a.quotient n b = some d) : d.isNaN = false ∧ a.isNaN = false ∧ b.isNaN = false := by
  cases a <;> cases b <;> simp only [Ieee.Datum.quotient] at h <;> (try split at h) <;> (try split at h) <;> cases h <;> exact ⟨rfl, rfl, rfl⟩
theorem opposite_nan (a : Ieee.Datum) : a.opposite.isNaN = a.isNaN := by cases a <;> rfl

theorem floatBits_not_nan {op : BinOp} {k : FloatKind} {x y r : Nat} (h : floatBits op k x y = some r) : (k.decode r).isNaN = false ∧ (k.decode x).isNaN = false ∧ (k.decode y).isNaN = false := by
  unfold floatBits at h
  unfold FloatKind.decode
  split at h
  · unfold Ieee.Format.add at h
    obtain ⟨d, h1, rfl⟩ := Option.map_eq_some_iff.1 h
    have := sum_not_nan h1
    exact ⟨write_not_nan _ _ this.1, this.2⟩
  · unfold Ieee.Format.sub at h
    obtain ⟨d, h1, rfl⟩ := Option.map_eq_some_iff.1 h
    have := sum_not_nan h1
    rw [opposite_nan] at this
    exact ⟨write_not_nan _ _ this.1, this.2⟩
  · unfold Ieee.Format.mul at h
    obtain ⟨d, h1, rfl⟩ := Option.map_eq_some_iff.1 h
    have := product_not_nan h1
    exact ⟨write_not_nan _ _ this.1, this.2⟩
  · unfold Ieee.Format.div at h
    obtain ⟨d, h1, rfl⟩ := Option.map_eq_some_iff.1 h
    have := quotient_not_nan h1
    exact ⟨write_not_nan _ _ this.1, this.2⟩
  · cases h

theorem fab_some {k : FloatKind} {b : Nat} (h : (k.decode b).isNaN = false) : fab k b = some b := by unfold fab; rw [h]; rfl
theorem fab_none {k : FloatKind} {b : Nat} (h : (k.decode b).isNaN = true) : fab k b = none := by unfold fab; rw [h]; rfl

@[simp] theorem fab_fres (w : World) (op : BinOp) (k : FloatKind) (x y : Nat) : fab k (fres w op k x y) = fA op k (fab k x) (fab k y) := by
  unfold fres
  cases h : floatBits op k x y with
  | some r =>
    obtain ⟨h1, h2, h3⟩ := floatBits_not_nan h
    simp only
    rw [fab_some h1, fab_some h2, fab_some h3]
    unfold fA; exact h.symm
  | none =>
    simp only
    rw [fab_none (nan_cut k x y _)]
    unfold fA fab
    split
    · rename_i a b ha hb
      split at ha <;> cases ha
      split at hb <;> cases hb
      exact h.symm
    · rfl

theorem fres_wf (w : World) (op : BinOp) (k : FloatKind) (x y : Nat) : fres w op k x y < 2 ^ k.format.width := by
  unfold fres
  cases h : floatBits op k x y with
  | some r =>
    have := floatBits_wf h
    simp only
    cases k <;> simpa [Lit.wf, FloatKind.format, Ieee.Format.width, Ieee.single, Ieee.double] using this
  | none =>
    simp only
    cases k
    · show (w.tape w.drawn (Question.nanBits .f32 x y) % 2) * 2 ^ 31 + 0x7f800000 + 1 + (w.tape w.drawn (Question.nanBits .f32 x y) / 2) % (2 ^ 23 - 1) < 2 ^ 32
      have h1 := Nat.mod_lt (w.tape w.drawn (Question.nanBits .f32 x y)) (y := 2) (by decide)
      have h2 := Nat.mod_lt (w.tape w.drawn (Question.nanBits .f32 x y) / 2) (y := 2 ^ 23 - 1) (by decide)
      omega
    · show (w.tape w.drawn (Question.nanBits .f64 x y) % 2) * 2 ^ 63 + 0x7ff0000000000000 + 1 + (w.tape w.drawn (Question.nanBits .f64 x y) / 2) % (2 ^ 52 - 1) < 2 ^ 64
      have h1 := Nat.mod_lt (w.tape w.drawn (Question.nanBits .f64 x y)) (y := 2) (by decide)
      have h2 := Nat.mod_lt (w.tape w.drawn (Question.nanBits .f64 x y) / 2) (y := 2 ^ 52 - 1) (by decide)
      omega

/-- is it a number? -/
def fin (k : FloatKind) (b : Nat) : Bool := match k.decode b with | .number .. => true | _ => false
def finO (k : FloatKind) (o : Option Nat) : Bool := match o with | some b => fin k b | none => false
theorem finO_fab (k : FloatKind) (b : Nat) : finO k (fab k b) = fin k b := by
  unfold finO fab fin
  cases h : k.decode b <;> simp [Ieee.Datum.isNaN, h]

theorem finO_of_some {k : FloatKind} {b : Nat} (h : fin k b = true) : (k.decode b).isNaN = false ∧ (k.decode b).isInfinity = false := by
  unfold fin at h; cases hd : k.decode b <;> simp [hd] at h <;> exact ⟨rfl, rfl⟩

/-! ### complex quotients of finite numbers -/
/-- the quotient's parts, step by step, without the bits of NaNs -/
def qA (a b c d : Nat) : Option Nat × Option Nat :=
  if absGe c d then
    let r := fA .quo .f64 (some d) (some c)
    let m := fA .add .f64 (some c) (fA .mul .f64 r (some d))
    (fA .quo .f64 (fA .add .f64 (some a) (fA .mul .f64 (some b) r)) m, fA .quo .f64 (fA .sub .f64 (some b) (fA .mul .f64 (some a) r)) m)
  else
    let r := fA .quo .f64 (some c) (some d)
    let m := fA .add .f64 (some d) (fA .mul .f64 r (some c))
    (fA .quo .f64 (fA .add .f64 (fA .mul .f64 (some a) r) (some b)) m, fA .quo .f64 (fA .sub .f64 (fA .mul .f64 (some b) r) (some a)) m)

section
variable {P : Program}
theorem run_cfl (w : World) (op : BinOp) (hop : op = .add ∨ op = .sub ∨ op = .mul ∨ op = .quo) (x y : Nat) :
    (Op.Complex.arith op .f64 x y).run P w = .ok (fres w op .f64 x y) (w.drewN (fdr op .f64 x y)) := by
  simp only [Op.Complex.arith, Sem.run_bind, run_fl w op hop .f64 x y, Result.andThen_ok, Sem.run_pure]
theorem run_cadd (w : World) (x y : Nat) : (Op.Complex.add x y).run P w = .ok (fres w .add .f64 x y) (w.drewN (fdr .add .f64 x y)) := run_cfl w .add (.inl rfl) x y
theorem run_csub (w : World) (x y : Nat) : (Op.Complex.sub x y).run P w = .ok (fres w .sub .f64 x y) (w.drewN (fdr .sub .f64 x y)) := run_cfl w .sub (.inr (.inl rfl)) x y
theorem run_cmul (w : World) (x y : Nat) : (Op.Complex.mul x y).run P w = .ok (fres w .mul .f64 x y) (w.drewN (fdr .mul .f64 x y)) := run_cfl w .mul (.inr (.inr (.inl rfl))) x y
theorem run_cquo (w : World) (x y : Nat) : (Op.Complex.quo x y).run P w = .ok (fres w .quo .f64 x y) (w.drewN (fdr .quo .f64 x y)) := run_cfl w .quo (.inr (.inr (.inr rfl))) x y
theorem run_ceql (w : World) (x : Nat) : (Op.Complex.cmp .eql .f64 x 0).run P w = .ok (FloatKind.f64.format.order x 0 == some .eq) w := by
  simp [Op.Complex.cmp, Op.floatCmp, asBool]

theorem run_quotient (a b c d : Nat) (w : World) (ha : fin .f64 a = true) (hb : fin .f64 b = true) (hc : fin .f64 c = true) (hd : fin .f64 d = true)
    (hz : ((FloatKind.f64.format.order c 0 == some .eq) && (FloatKind.f64.format.order d 0 == some .eq)) = false) :
    ∃ e f n, (Op.Complex.quotient a b c d).run P w = .ok (e, f) (w.drewN n) ∧ fab .f64 e = (qA a b c d).1 ∧ fab .f64 f = (qA a b c d).2 ∧ e < 2 ^ 64 ∧ f < 2 ^ 64 := by
  have fa : fab .f64 a = some a := fab_some (finO_of_some ha).1
  have fb : fab .f64 b = some b := fab_some (finO_of_some hb).1
  have fc : fab .f64 c = some c := fab_some (finO_of_some hc).1
  have fd : fab .f64 d = some d := fab_some (finO_of_some hd).1
  have ia : Op.Complex.isInf a = false := (finO_of_some ha).2
  have ib : Op.Complex.isInf b = false := (finO_of_some hb).2
  have ic : Op.Complex.isInf c = false := (finO_of_some hc).2
  have id' : Op.Complex.isInf d = false := (finO_of_some hd).2
  cases hge : absGe c d with
  | true =>
    unfold Op.Complex.quotient qA
    simp only [Sem.run_bind, run_ccmp_geq, hge, Result.andThen_ok, if_true, run_cadd, run_csub, run_cmul, run_cquo, Sem.run_pure, run_ceql, hz, ia, ib, ic, id', Bool.false_and, Bool.or_self, Bool.false_eq_true, if_false, ite_self, World.drewN_drewN]
    refine ⟨_, _, _, rfl, ?_, ?_, fres_wf _ _ _ _ _, fres_wf _ _ _ _ _⟩ <;> simp only [fab_fres, fa, fb, fc, fd]
  | false =>
    unfold Op.Complex.quotient qA
    simp only [Sem.run_bind, run_ccmp_geq, hge, Result.andThen_ok, if_true, run_cadd, run_csub, run_cmul, run_cquo, Sem.run_pure, run_ceql, hz, ia, ib, ic, id', Bool.false_and, Bool.or_self, Bool.false_eq_true, if_false, ite_self, World.drewN_drewN]
    refine ⟨_, _, _, rfl, ?_, ?_, fres_wf _ _ _ _ _, fres_wf _ _ _ _ _⟩ <;> simp only [fab_fres, fa, fb, fc, fd]

/-- '/' on complex128, of finite numbers, the divisor not 0 -/
theorem run_cquot (t : TypeId) (a b c d : Nat) (w : World) (ha : fin .f64 a = true) (hb : fin .f64 b = true) (hc : fin .f64 c = true) (hd : fin .f64 d = true)
    (hz : ((FloatKind.f64.format.order c 0 == some .eq) && (FloatKind.f64.format.order d 0 == some .eq)) = false) :
    ∃ e f n, (binOp .quo t (.complex .f64 a b) (.complex .f64 c d)).run P w = .ok (.complex .f64 e f) (w.drewN n) ∧ fab .f64 e = (qA a b c d).1 ∧ fab .f64 f = (qA a b c d).2 ∧ e < 2 ^ 64 ∧ f < 2 ^ 64 := by
  obtain ⟨e, f, n, h1, h2⟩ := run_quotient (P := P) a b c d w ha hb hc hd hz
  refine ⟨e, f, n, ?_, h2⟩
  simp [binOp, Op.complexOp, Op.Complex.conv, h1]
end

/-- what DivideDouble says: the quotient where both numbers are finite, the divisor is not 0 and the quotient is finite -/
def divD (a b c d : Nat) : Option (Nat × Nat) :=
  if fin .f64 a && fin .f64 b && (fin .f64 c && fin .f64 d) && !((FloatKind.f64.format.order c 0 == some .eq) && (FloatKind.f64.format.order d 0 == some .eq)) then
    match qA a b c d with
    | (some e, some f) => if fin .f64 e && fin .f64 f then some (e, f) else none
    | _ => none
  else none
/-- its results -/
def divV (o : Option (Nat × Nat)) : Value :=
  match o with
  | some (e, f) => .tuple #[.complex .f64 e f, .bool true]
  | none => .tuple #[.complex .f64 0 0, .bool false]

theorem divD_of (a b c d e f : Nat) (h : (fin .f64 a && fin .f64 b && (fin .f64 c && fin .f64 d) && !((FloatKind.f64.format.order c 0 == some .eq) && (FloatKind.f64.format.order d 0 == some .eq))) = true)
    (h1 : fab .f64 e = (qA a b c d).1) (h2 : fab .f64 f = (qA a b c d).2) :
    divD a b c d = if fin .f64 e && fin .f64 f then some (e, f) else none := by
  unfold divD
  rw [if_pos h]
  rw [show qA a b c d = (fab .f64 e, fab .f64 f) from by rw [h1, h2]]
  unfold fab fin
  cases he : FloatKind.f64.decode e <;> cases hf : FloatKind.f64.decode f <;> simp [Ieee.Datum.isNaN, he, hf]

/-! ### sums and differences of complex numbers -/
theorem run_carith {P : Program} (w : World) (op : BinOp) (hop : op = .add ∨ op = .sub ∨ op = .mul ∨ op = .quo) (k : FloatKind) (x y : Nat) :
    (Op.Complex.arith op k x y).run P w = .ok (fres w op k x y) (w.drewN (fdr op k x y)) := by
  simp only [Op.Complex.arith, Sem.run_bind, run_fl w op hop k x y, Result.andThen_ok, Sem.run_pure]
@[go_sem] theorem run_cx_add {P : Program} (w : World) (t : TypeId) (k : FloatKind) (a b c d : Nat) : (binOp .add t (.complex k a b) (.complex k c d)).run P w =
    .ok (.complex k (fres w .add k a c) (fres (w.drewN (fdr .add k a c)) .add k b d)) (w.drewN (fdr .add k a c + fdr .add k b d)) := by
  simp [binOp, Op.complexOp, run_carith _ .add (.inl rfl)]
@[go_sem] theorem run_cx_sub {P : Program} (w : World) (t : TypeId) (k : FloatKind) (a b c d : Nat) : (binOp .sub t (.complex k a b) (.complex k c d)).run P w =
    .ok (.complex k (fres w .sub k a c) (fres (w.drewN (fdr .sub k a c)) .sub k b d)) (w.drewN (fdr .sub k a c + fdr .sub k b d)) := by
  simp [binOp, Op.complexOp, run_carith _ .sub (.inr (.inl rfl))]

/-! ### conversions between the widths -/
/-- the bits of a converted float: a finite number too great for the narrower kind has the bits that the tape says -/
def fcv (w : World) (s : FloatKind) (b : Nat) (k : FloatKind) : Nat :=
  if s = k then b else
  match s.decode b with
  | .nan _ _ => (Question.nanConv k b).cut (w.tape w.drawn (.nanConv k b))
  | .infinity g => k.encode (.infinity g)
  | .number g m e => if (k.decode (k.encode (.number g m e))).isInfinity then (Question.floatToFloat b).cut (w.tape w.drawn (.floatToFloat b)) else k.encode (.number g m e)
def fcd (s : FloatKind) (b : Nat) (k : FloatKind) : Nat :=
  if s = k then 0 else
  match s.decode b with
  | .nan _ _ => 1
  | .infinity _ => 0
  | .number g m e => if (k.decode (k.encode (.number g m e))).isInfinity then 1 else 0

theorem run_cv {P : Program} (w : World) (s : FloatKind) (b : Nat) (k : FloatKind) : (Conv.floatToFloat s b k).run P w = .ok (.float k (fcv w s b k)) (w.drewN (fcd s b k)) := by
  unfold fcv fcd Conv.floatToFloat
  by_cases h : s = k
  · simp only [if_pos h, Sem.run_pure]; rfl
  · simp only [if_neg h]
    cases hd : s.decode b with
    | nan => simp [Question.forced, World.drewN]
    | infinity g => simp only [Sem.run_pure]; rfl
    | number g m e =>
      by_cases hi : (k.decode (k.encode (.number g m e))).isInfinity = true
      · simp [hi, Question.forced, World.drewN]
      · simp only [hi, Sem.run_pure, if_false, Bool.false_eq_true]; rfl
@[go_sem] theorem run_convert_fl {P : Program} (w : World) (src dst : TypeId) (s k : FloatKind) (b : Nat) (hs : (P.underlying src).isSome = true) (hd : P.underlying dst = some (.float k)) :
    (convert src dst (.float s b)).run P w = .ok (.float k (fcv w s b k)) (w.drewN (fcd s b k)) := by
  obtain ⟨u, hs'⟩ := Option.isSome_iff_exists.1 hs
  cases u <;> simp [convert, run_underlying hs', run_underlying hd, run_cv]
@[go_sem] theorem run_convert_cx {P : Program} (w : World) (src dst : TypeId) (s k : FloatKind) (a b : Nat) (hs : (P.underlying src).isSome = true) (hd : P.underlying dst = some (.complex k)) :
    (convert src dst (.complex s a b)).run P w = .ok (.complex k (fcv w s a k) (fcv (w.drewN (fcd s a k)) s b k)) (w.drewN (fcd s a k + fcd s b k)) := by
  obtain ⟨u, hs'⟩ := Option.isSome_iff_exists.1 hs
  cases u <;> simp [convert, run_underlying hs', run_underlying hd, Conv.complexToComplex, run_cv]

theorem fcv_wf (w : World) (s : FloatKind) (b : Nat) (k : FloatKind) (hb : b < 2 ^ s.format.width) : fcv w s b k < 2 ^ k.format.width := by
  unfold fcv
  split
  · rename_i h; subst h; exact hb
  · split
    · cases k
      · show (w.tape w.drawn _ % 2) * 2 ^ 31 + 0x7f800000 + 1 + (w.tape w.drawn _ / 2) % (2 ^ 23 - 1) < 2 ^ 32
        have h1 := Nat.mod_lt (w.tape w.drawn (Question.nanConv .f32 b)) (y := 2) (by decide)
        have h2 := Nat.mod_lt (w.tape w.drawn (Question.nanConv .f32 b) / 2) (y := 2 ^ 23 - 1) (by decide)
        omega
      · show (w.tape w.drawn _ % 2) * 2 ^ 63 + 0x7ff0000000000000 + 1 + (w.tape w.drawn _ / 2) % (2 ^ 52 - 1) < 2 ^ 64
        have h1 := Nat.mod_lt (w.tape w.drawn (Question.nanConv .f64 b)) (y := 2) (by decide)
        have h2 := Nat.mod_lt (w.tape w.drawn (Question.nanConv .f64 b) / 2) (y := 2 ^ 52 - 1) (by decide)
        omega
    · exact k.format.write_lt _
    · split
      · have h1 := Nat.mod_lt (w.tape w.drawn (Question.floatToFloat b)) (y := 2 ^ 32) (by decide)
        cases k
        · exact h1
        · exact Nat.lt_trans h1 (by decide)
      · exact k.format.write_lt _

end Go.Proofs.YtiakcibeobbonaaGreat

/- Plain facts on binary floating point over the model's own words: what a rounded result reads as, and how far it lies from the exact number. No program stands in it.
   Conditions: none beyond those that each statement names. -/
namespace Go.Proofs.YtiakcibeobbonaaGreat
set_option linter.unusedSimpArgs false
set_option linter.unusedVariables false
namespace Flo
open Ieee

/-! ### powers of two as rational numbers -/
def pw (e : Int) : Rat := (2 : Rat) ^ e
theorem two_ne : (2 : Rat) ≠ 0 := by decide
theorem pw_add (a b : Int) : pw (a + b) = pw a * pw b := Rat.zpow_add two_ne a b
theorem pw_pos (a : Int) : 0 < pw a := Rat.zpow_pos (by decide)
theorem pw_zero : pw 0 = 1 := Rat.zpow_zero 2
theorem pw_one : pw 1 = 2 := Rat.zpow_one 2
theorem pw_nat (n : Nat) : pw n = ((2 ^ n : Nat) : Rat) := by
  unfold pw; rw [Rat.zpow_natCast, Rat.natCast_pow]; rfl
theorem pw_succ (a : Int) : pw (a + 1) = 2 * pw a := by rw [pw_add, pw_one, Rat.mul_comm]
theorem pw_neg_mul (a : Int) : pw (-a) * pw a = 1 := by rw [← pw_add, show -a + a = 0 by omega, pw_zero]
theorem one_le_pw_nat (n : Nat) : 1 ≤ pw n := by
  rw [pw_nat]; exact_mod_cast Nat.one_le_two_pow
theorem pw_le {a b : Int} (h : a ≤ b) : pw a ≤ pw b := by
  obtain ⟨n, rfl⟩ := Int.le.dest h
  rw [pw_add]
  have h1 := one_le_pw_nat n
  have h2 := pw_pos a
  have := Rat.mul_le_mul_of_nonneg_left h1 (Rat.le_of_lt h2)
  grind
theorem pw_lt {a b : Int} (h : a < b) : pw a < pw b := by
  have h1 : pw (a + 1) ≤ pw b := pw_le (by omega)
  rw [pw_succ] at h1
  have := pw_pos a
  grind
theorem lt_of_pw_lt {a b : Int} (h : pw a < pw b) : a < b := by
  rcases Int.lt_or_le a b with h1 | h1
  · exact h1
  · have := pw_le h1; grind
theorem le_of_pw_le {a b : Int} (h : pw a ≤ pw b) : a ≤ b := by
  rcases Int.lt_or_le b a with h1 | h1
  · have := pw_lt h1; grind
  · exact h1

/-! ### the whole number that a cut leaves -/
theorem cut_even (neg : Bool) (n drop : Nat) :
    2 * (Toward.even.cut neg n drop * 2 ^ drop) ≤ 2 * n + 2 ^ drop ∧ 2 * n ≤ 2 * (Toward.even.cut neg n drop * 2 ^ drop) + 2 ^ drop := by
  unfold Toward.cut
  simp only [Nat.shiftLeft_eq, Nat.one_mul]
  by_cases hd : drop ≤ n.log2 + 2
  · rw [Nat.min_eq_left hd]
    generalize hg : 2 ^ drop = gap
    have hpos : 0 < gap := by rw [← hg]; exact Nat.two_pow_pos _
    have hdm := Nat.div_add_mod n gap
    have hlt := Nat.mod_lt n hpos
    generalize n / gap = low at *
    generalize n % gap = rest at *
    rw [Nat.add_mul]
    have hc : low * gap = gap * low := Nat.mul_comm _ _
    rw [hc]
    by_cases h1 : gap < 2 * rest
    · simp only [h1, decide_true, Bool.true_or, Bool.toNat_true, Nat.one_mul]; omega
    · by_cases h2 : (gap == 2 * rest && low % 2 == 1) = true
      · simp only [h1, h2, decide_false, Bool.false_or, Bool.toNat_true, Nat.one_mul]
        simp at h2; omega
      · simp only [Bool.not_eq_true] at h2
        simp only [h1, h2, decide_false, Bool.false_or, Bool.toNat_false, Nat.zero_mul]; omega
  · have hd' : n.log2 + 2 ≤ drop := by omega
    rw [Nat.min_eq_right hd']
    have hn : n < 2 ^ (n.log2 + 1) := Nat.lt_log2_self
    have hn2 : 2 * n < 2 ^ (n.log2 + 2) := by rw [Nat.pow_succ]; omega
    have hz : n / 2 ^ (n.log2 + 2) = 0 := Nat.div_eq_of_lt (by omega)
    have hm : n % 2 ^ (n.log2 + 2) = n := Nat.mod_eq_of_lt (by omega)
    have hle : 2 ^ (n.log2 + 2) ≤ 2 ^ drop := Nat.pow_le_pow_right (by omega) hd'
    rw [hz, hm]
    have h1 : ¬ 2 ^ (n.log2 + 2) < 2 * n := by omega
    have h2 : (2 ^ (n.log2 + 2) == 2 * n && 0 % 2 == 1) = false := by simp
    simp only [h1, h2, decide_false, Bool.false_or, Bool.toNat_false, Nat.add_zero, Nat.zero_mul]
    omega

/-! ### what a written number reads as -/
/-- the place of the last digit that is kept -/
def lastOf (f : Format) (m : Nat) (p : Int) : Int := max (p + m.log2 - f.fractionBits) f.leastPlace
/-- the whole number of units that is kept -/
def keptOf (f : Format) (neg : Bool) (m : Nat) (p : Int) : Nat :=
  Toward.even.cut neg (m <<< (p - lastOf f m p).toNat) (lastOf f m p - p).toNat

def val (neg : Bool) (m : Nat) (p : Int) : Rat := (if neg then -1 else 1) * ((m : Rat) * pw p)

theorem kept_near (f : Format) (neg : Bool) (m : Nat) (p : Int) :
    2 * ((keptOf f neg m p : Rat) * pw (lastOf f m p)) ≤ 2 * ((m : Rat) * pw p) + pw (lastOf f m p) ∧
    2 * ((m : Rat) * pw p) ≤ 2 * ((keptOf f neg m p : Rat) * pw (lastOf f m p)) + pw (lastOf f m p) := by
  unfold keptOf
  generalize lastOf f m p = l
  have h := cut_even neg (m <<< (p - l).toNat) (l - p).toNat
  generalize Toward.even.cut neg (m <<< (p - l).toNat) (l - p).toNat = k at *
  rw [Nat.shiftLeft_eq] at h
  obtain ⟨h1, h2⟩ := h
  have h1' : (2 : Rat) * (k * ((2 ^ (l - p).toNat : Nat) : Rat)) ≤ 2 * (m * ((2 ^ (p - l).toNat : Nat) : Rat)) + ((2 ^ (l - p).toNat : Nat) : Rat) := by exact_mod_cast h1
  have h2' : (2 : Rat) * (m * ((2 ^ (p - l).toNat : Nat) : Rat)) ≤ 2 * (k * ((2 ^ (l - p).toNat : Nat) : Rat)) + ((2 ^ (l - p).toNat : Nat) : Rat) := by exact_mod_cast h2
  rw [← pw_nat, ← pw_nat] at h1' h2'
  generalize hs1 : (p - l).toNat = s1 at *
  generalize hs2 : (l - p).toNat = s2 at *
  have e1 : pw p = pw s1 * pw (l - s2) := by rw [← pw_add]; congr 1; omega
  have e2 : pw l = pw s2 * pw (l - s2) := by rw [← pw_add]; congr 1; omega
  rw [e1, e2]
  have hp := Rat.le_of_lt (pw_pos (l - s2))
  generalize pw (l - s2) = t at *
  generalize pw (s1 : Int) = a at *
  generalize pw (s2 : Int) = b at *
  have g1 := Rat.mul_le_mul_of_nonneg_right h1' hp
  have g2 := Rat.mul_le_mul_of_nonneg_right h2' hp
  constructor <;> grind

theorem log2_pw (m : Nat) (h : m ≠ 0) : pw m.log2 ≤ (m : Rat) ∧ (m : Rat) < pw (m.log2 + 1) := by
  have h1 := Nat.log2_self_le h
  have h2 : m < 2 ^ (m.log2 + 1) := Nat.lt_log2_self
  have e : ((m.log2 : Int) + 1) = ((m.log2 + 1 : Nat) : Int) := by omega
  rw [e, pw_nat, pw_nat]
  exact ⟨by exact_mod_cast h1, by exact_mod_cast h2⟩

theorem size_pw (m : Nat) (p : Int) (h : m ≠ 0) : pw (p + m.log2) ≤ (m : Rat) * pw p ∧ (m : Rat) * pw p < pw (p + m.log2 + 1) := by
  obtain ⟨h1, h2⟩ := log2_pw m h
  have hp := pw_pos p
  have e : p + (m.log2 : Int) + 1 = p + ((m.log2 : Int) + 1) := by omega
  rw [e, pw_add, pw_add]
  have g1 := Rat.mul_le_mul_of_nonneg_left h1 (Rat.le_of_lt hp)
  have g2 := (Rat.mul_lt_mul_left hp).2 h2
  constructor <;> grind

theorem le_nat_of (a b : Nat) (l : Int) (h : 2 * ((a : Rat) * pw l) ≤ 2 * ((b : Rat) * pw l) + pw l) : a ≤ b := by
  rcases Nat.lt_or_ge b a with h1 | h1
  · exfalso
    have h2 : ((b + 1 : Nat) : Rat) ≤ (a : Rat) := by exact_mod_cast h1
    have hp := pw_pos l
    have h3 := Rat.mul_le_mul_of_nonneg_right h2 (Rat.le_of_lt hp)
    rw [show ((b + 1 : Nat) : Rat) = (b : Rat) + 1 from by exact_mod_cast rfl] at h3
    grind
  · exact h1

/-- what is kept has at most one digit more than the fraction field has -/
theorem kept_le (f : Format) (neg : Bool) (m : Nat) (p : Int) (h : m ≠ 0) : keptOf f neg m p ≤ 2 ^ (f.fractionBits + 1) := by
  apply le_nat_of _ _ (lastOf f m p)
  have h1 := (kept_near f neg m p).1
  have h2 := (size_pw m p h).2
  have h3 : p + m.log2 + 1 ≤ (f.fractionBits + 1 : Nat) + lastOf f m p := by unfold lastOf; omega
  have h4 := pw_le h3
  rw [pw_add ((f.fractionBits + 1 : Nat) : Int), pw_nat] at h4
  grind

theorem le_kept (f : Format) (neg : Bool) (m : Nat) (p : Int) (h : m ≠ 0) (hl : f.leastPlace < lastOf f m p) : 2 ^ f.fractionBits ≤ keptOf f neg m p := by
  apply le_nat_of _ _ (lastOf f m p)
  have h1 := (kept_near f neg m p).2
  have h2 := (size_pw m p h).1
  have h3 : (f.fractionBits : Nat) + lastOf f m p ≤ p + m.log2 := by unfold lastOf at *; omega
  have h4 := pw_le h3
  rw [pw_add, pw_nat] at h4
  grind

def rungOf (f : Format) (neg : Bool) (m : Nat) (p : Int) : Nat := (lastOf f m p - f.leastPlace).toNat * f.binade + keptOf f neg m p

theorem nearest_eq (f : Format) (neg : Bool) (m : Nat) (p : Int) (h : m ≠ 0) : f.nearest neg m p = f.word neg (min (rungOf f neg m p) f.infRung) := by
  unfold Format.nearest rungOf keptOf lastOf
  rw [if_neg h]

theorem sw_pos (f : Format) : 0 < f.signWeight := Nat.two_pow_pos _
theorem word_mod (f : Format) (neg : Bool) {r : Nat} (h : r < f.signWeight) : f.word neg r % f.signWeight = r := by
  unfold Format.word; split
  · rw [Nat.add_mod_left]; exact Nat.mod_eq_of_lt h
  · exact Nat.mod_eq_of_lt h
theorem word_div (f : Format) (neg : Bool) {r : Nat} (h : r < f.signWeight) : (f.word neg r / f.signWeight % 2 == 1) = neg := by
  unfold Format.word; split
  · rename_i hn; rw [Nat.add_div_left _ (sw_pos f), Nat.div_eq_of_lt h]; simp [hn]
  · rename_i hn; rw [Nat.div_eq_of_lt h]; simp at hn; simp [hn]

theorem read_word (f : Format) (neg : Bool) {r : Nat} (h : r < f.infRung) :
    f.read (f.word neg r) = if r < f.binade then .number neg r f.leastPlace else .number neg (f.binade + r % f.binade) (f.leastPlace + (r / f.binade - 1 : Nat)) := by
  have hs := Nat.lt_trans h f.infRung_lt
  unfold Format.read
  simp only [word_mod f neg hs, word_div f neg hs]
  rw [if_pos h]

theorem read_word_inf (f : Format) (neg : Bool) : f.read (f.word neg f.infRung) = if f.infRung < f.binade then .number neg f.infRung f.leastPlace else .infinity neg := by
  unfold Format.read
  simp only [word_mod f neg f.infRung_lt, word_div f neg f.infRung_lt]
  split <;> simp

theorem bin_pos (f : Format) : 0 < f.binade := Nat.two_pow_pos _

/-- a number that is written and lies below infinity reads as the kept units -/
theorem read_nearest (f : Format) (neg : Bool) (m : Nat) (p : Int) (h : m ≠ 0) (hr : rungOf f neg m p < f.infRung) :
    ∃ m' p', f.read (f.nearest neg m p) = .number neg m' p' ∧ (m' : Rat) * pw p' = (keptOf f neg m p : Rat) * pw (lastOf f m p) ∧ f.leastPlace ≤ p' ∧ m' < 2 ^ (f.fractionBits + 1) := by
  rw [nearest_eq f neg m p h, Nat.min_eq_left (Nat.le_of_lt hr), read_word f neg hr]
  have hk := kept_le f neg m p h
  have hb : f.binade = 2 ^ f.fractionBits := rfl
  have hb1 : 2 ^ (f.fractionBits + 1) = 2 * f.binade := by rw [hb, Nat.pow_succ, Nat.mul_comm]
  have hbp := bin_pos f
  have hll : f.leastPlace ≤ lastOf f m p := by unfold lastOf; omega
  unfold rungOf at *
  generalize hkk : keptOf f neg m p = k at *
  generalize hL : lastOf f m p = l at *
  by_cases hl : f.leastPlace < l
  · have hk2 : f.binade ≤ k := by
      have := le_kept f neg m p h (by rw [hL]; exact hl)
      rw [hkk] at this; exact this
    obtain ⟨d, hd⟩ : ∃ d : Nat, l = f.leastPlace + (d + 1 : Nat) := ⟨(l - f.leastPlace).toNat - 1, by omega⟩
    have ht : (l - f.leastPlace).toNat = d + 1 := by omega
    rw [ht] at hr ⊢
    have hge : ¬ ((d + 1) * f.binade + k < f.binade) := by
      have : f.binade ≤ (d + 1) * f.binade := Nat.le_mul_of_pos_left _ (by omega)
      omega
    rw [if_neg hge]
    by_cases hk3 : k < 2 * f.binade
    · obtain ⟨j, hj⟩ : ∃ j, k = f.binade + j := ⟨k - f.binade, by omega⟩
      have e1 : (d + 1) * f.binade + k = j + f.binade * (d + 2) := by rw [hj, Nat.add_mul, Nat.mul_add, Nat.mul_comm d]; omega
      have hjlt : j < f.binade := by omega
      rw [e1, Nat.add_mul_mod_self_left, Nat.mod_eq_of_lt hjlt, Nat.add_mul_div_left _ _ hbp, Nat.div_eq_of_lt hjlt]
      refine ⟨_, _, rfl, ?_, by omega, by omega⟩
      rw [← hj, hd]; congr 2; omega
    · have hk4 : k = 2 * f.binade := by omega
      have e1 : (d + 1) * f.binade + k = 0 + f.binade * (d + 3) := by rw [hk4, Nat.add_mul, Nat.mul_add, Nat.mul_comm d]; omega
      rw [e1, Nat.add_mul_mod_self_left, Nat.zero_mod, Nat.add_mul_div_left _ _ hbp, Nat.zero_div]
      refine ⟨_, _, rfl, ?_, by omega, by omega⟩
      rw [hk4, hd, show f.leastPlace + ((0 + (d + 3) - 1 : Nat) : Int) = (f.leastPlace + ((d + 1 : Nat) : Int)) + 1 from by omega, pw_succ]
      rw [show ((2 * f.binade : Nat) : Rat) = 2 * (f.binade : Rat) from by exact_mod_cast rfl]
      grind
  · have hl0 : l = f.leastPlace := by omega
    have ht : (l - f.leastPlace).toNat = 0 := by omega
    rw [ht, Nat.zero_mul, Nat.zero_add] at hr ⊢
    by_cases hkb : k < f.binade
    · rw [if_pos hkb]; exact ⟨_, _, rfl, by rw [hl0], by omega, by omega⟩
    · rw [if_neg hkb]
      by_cases hk3 : k < 2 * f.binade
      · obtain ⟨j, hj⟩ : ∃ j, k = f.binade + j := ⟨k - f.binade, by omega⟩
        have e1 : k = j + f.binade * 1 := by omega
        have hjlt : j < f.binade := by omega
        rw [e1, Nat.add_mul_mod_self_left, Nat.mod_eq_of_lt hjlt, Nat.add_mul_div_left _ _ hbp, Nat.div_eq_of_lt hjlt]
        refine ⟨_, _, rfl, ?_, by omega, by omega⟩
        rw [hl0, show f.binade + j = j + f.binade * 1 from by omega]; congr 2; omega
      · have hk4 : k = 0 + f.binade * 2 := by omega
        rw [hk4, Nat.add_mul_mod_self_left, Nat.zero_mod, Nat.add_mul_div_left _ _ hbp, Nat.zero_div]
        refine ⟨_, _, rfl, ?_, by omega, by omega⟩
        rw [hl0, show f.leastPlace + ((0 + 2 - 1 : Nat) : Int) = f.leastPlace + 1 from by omega, pw_succ]
        rw [show ((0 + f.binade * 2 : Nat) : Rat) = 2 * (f.binade : Rat) from by rw [Nat.zero_add, Nat.mul_comm]; exact_mod_cast rfl]
        rw [show ((f.binade + 0 : Nat) : Rat) = (f.binade : Rat) from rfl]
        grind

/-! ### values -/
def IsNum (f : Format) (b : Nat) : Prop := ∃ s m p, f.read b = .number s m p
def V (f : Format) (b : Nat) : Rat := match f.read b with | .number s m p => val s m p | _ => 0
def Near (r x e : Rat) : Prop := r ≤ x + e ∧ x ≤ r + e
/-- below two to this power no rounding overflows -/
def top (f : Format) : Int := f.leastPlace + f.fractionBits + ((2 ^ f.exponentBits : Nat) - 3)

theorem V_eq {f : Format} {b : Nat} {s : Bool} {m : Nat} {p : Int} (h : f.read b = .number s m p) : V f b = val s m p := by unfold V; rw [h]

theorem log2_lt_of (m : Nat) (p t : Int) (h : m ≠ 0) (hx : (m : Rat) * pw p < pw t) : p + m.log2 < t := by
  have h1 := (size_pw m p h).1
  exact lt_of_pw_lt (by grind)

theorem rung_lt (f : Format) (neg : Bool) (m : Nat) (p : Int) (h : m ≠ 0) (he : 2 ≤ f.exponentBits) (hx : (m : Rat) * pw p < pw (top f)) : rungOf f neg m p < f.infRung := by
  have h1 := log2_lt_of m p _ h hx
  have h2 := kept_le f neg m p h
  have h4 : 4 ≤ 2 ^ f.exponentBits := by
    have := Nat.pow_le_pow_right (n := 2) (by omega) he
    simpa using this
  unfold rungOf Format.infRung
  have hb1 : 2 ^ (f.fractionBits + 1) = 2 * f.binade := by rw [Nat.pow_succ, Nat.mul_comm]; rfl
  have h5 : (lastOf f m p - f.leastPlace).toNat ≤ 2 ^ f.exponentBits - 4 := by unfold lastOf; unfold top at h1; omega
  have h6 := Nat.mul_le_mul_right f.binade h5
  have h7 : (2 ^ f.exponentBits - 1) * f.binade = (2 ^ f.exponentBits - 4) * f.binade + 3 * f.binade := by rw [← Nat.add_mul]; congr 1; omega
  have := bin_pos f
  omega

theorem val_zero (s : Bool) (p : Int) : val s 0 p = 0 := by unfold val; cases s <;> simp
theorem zero_read (f : Format) (s : Bool) : f.read (f.word s 0) = .number s 0 f.leastPlace := by
  unfold Format.read
  simp only [word_mod f s (sw_pos f), word_div f s (sw_pos f)]
  rw [if_pos (bin_pos f)]

theorem last_half (f : Format) (m : Nat) (p : Int) (h : m ≠ 0) : pw (lastOf f m p) ≤ (m : Rat) * pw p * pw (-f.fractionBits) + pw f.leastPlace := by
  have h1 := (size_pw m p h).1
  have hp1 := pw_pos (-(f.fractionBits : Int))
  have hp2 := pw_pos f.leastPlace
  have hm : 0 ≤ (m : Rat) * pw p := by have := pw_pos (p + m.log2); grind
  unfold lastOf
  rcases Int.le_total (p + m.log2 - f.fractionBits) f.leastPlace with h3 | h3
  · rw [Int.max_eq_right h3]
    have := Rat.mul_nonneg hm (Rat.le_of_lt hp1)
    grind
  · rw [Int.max_eq_left h3, show p + (m.log2 : Int) - f.fractionBits = (p + m.log2) + (-(f.fractionBits : Int)) from by omega, pw_add]
    have := Rat.mul_le_mul_of_nonneg_right h1 (Rat.le_of_lt hp1)
    grind

/-- WHAT IS WRITTEN IS NEAR WHAT WAS MEANT: half a unit. -/
theorem nearest_ok (f : Format) (he : 2 ≤ f.exponentBits) (s : Bool) (m : Nat) (p : Int) (hx : (m : Rat) * pw p < pw (top f)) :
    ∃ m' p', f.read (f.nearest s m p) = .number s m' p' ∧ f.leastPlace ≤ p' ∧ m' < 2 ^ (f.fractionBits + 1) ∧
      2 * ((m' : Rat) * pw p') ≤ 2 * ((m : Rat) * pw p) + ((m : Rat) * pw p * pw (-f.fractionBits) + pw f.leastPlace) ∧
      2 * ((m : Rat) * pw p) ≤ 2 * ((m' : Rat) * pw p') + ((m : Rat) * pw p * pw (-f.fractionBits) + pw f.leastPlace) := by
  by_cases h : m = 0
  · subst h
    have : f.nearest s 0 p = f.word s 0 := by unfold Format.nearest; simp
    rw [this, zero_read]
    have := pw_pos f.leastPlace
    refine ⟨_, _, rfl, Int.le_refl _, Nat.two_pow_pos _, ?_, ?_⟩ <;> simp <;> grind
  · obtain ⟨m', p', h1, h2, h3, h4⟩ := read_nearest f s m p h (rung_lt f s m p h he hx)
    have h5 := kept_near f s m p
    have h6 := last_half f m p h
    refine ⟨m', p', h1, h3, h4, ?_, ?_⟩ <;> rw [h2] <;> grind

theorem val_near (s : Bool) (m m' : Nat) (p p' : Int) (e : Rat) (h1 : 2 * ((m' : Rat) * pw p') ≤ 2 * ((m : Rat) * pw p) + e) (h2 : 2 * ((m : Rat) * pw p) ≤ 2 * ((m' : Rat) * pw p') + e) :
    2 * val s m' p' ≤ 2 * val s m p + e ∧ 2 * val s m p ≤ 2 * val s m' p' + e := by
  unfold val; cases s <;> constructor <;> simp <;> grind

theorem val_abs (s : Bool) (m : Nat) (p : Int) (B : Rat) (h1 : val s m p ≤ B) (h2 : -B ≤ val s m p) : (m : Rat) * pw p ≤ B := by
  unfold val at *; cases s <;> simp at * <;> grind

/-- the same for signed values: 'B' bounds the number's absolute value -/
theorem write_ok (f : Format) (he : 2 ≤ f.exponentBits) (s : Bool) (m : Nat) (p : Int) (B : Rat) (h1 : val s m p ≤ B) (h2 : -B ≤ val s m p) (hB : B < pw (top f)) :
    IsNum f (f.write (.number s m p)) ∧ Near (V f (f.write (.number s m p))) (val s m p) ((B * pw (-f.fractionBits) + pw f.leastPlace) / 2) := by
  have hm := val_abs s m p B h1 h2
  obtain ⟨m', p', g1, _, _, g4, g5⟩ := nearest_ok f he s m p (by grind)
  have hw : f.write (.number s m p) = f.nearest s m p := rfl
  rw [hw]
  refine ⟨⟨_, _, _, g1⟩, ?_⟩
  rw [V_eq g1]
  obtain ⟨k1, k2⟩ := val_near s m m' p p' _ g4 g5
  have := Rat.mul_le_mul_of_nonneg_right hm (Rat.le_of_lt (pw_pos (-(f.fractionBits : Int))))
  unfold Near
  constructor <;> grind

/-- A NUMBER THAT THE FORMAT HAS IS WRITTEN AS IT IS. -/
theorem write_exact (f : Format) (he : 2 ≤ f.exponentBits) (s : Bool) (m : Nat) (p : Int) (k : Nat) (e : Int) (hk : (m : Rat) * pw p = (k : Rat) * pw e) (hk1 : k < 2 ^ (f.fractionBits + 1)) (hp : f.leastPlace ≤ e) (hB : (m : Rat) * pw p < pw (top f)) :
    ∃ m' p', f.read (f.write (.number s m p)) = .number s m' p' ∧ f.leastPlace ≤ p' ∧ m' < 2 ^ (f.fractionBits + 1) ∧ (m' : Rat) * pw p' = (m : Rat) * pw p := by
  have hw : f.write (.number s m p) = f.nearest s m p := rfl
  rw [hw]
  by_cases h : m = 0
  · subst h
    have : f.nearest s 0 p = f.word s 0 := by unfold Format.nearest; simp
    rw [this, zero_read]
    exact ⟨_, _, rfl, Int.le_refl _, Nat.two_pow_pos _, by simp⟩
  · obtain ⟨m', p', h1, h2, h3, h4⟩ := read_nearest f s m p h (rung_lt f s m p h he hB)
    refine ⟨m', p', h1, h3, h4, ?_⟩
    rw [h2, hk]
    obtain ⟨n1, n2⟩ := kept_near f s m p
    have hk0 : k ≠ 0 := by
      intro hk0; subst hk0
      have := (size_pw m p h).1
      have := pw_pos (p + m.log2)
      simp at hk
      grind
    have hlast : lastOf f m p ≤ e := by
      have a1 := (size_pw m p h).1
      have a2 := (size_pw k e hk0).2
      rw [← hk] at a2
      have a3 := lt_of_pw_lt (a := p + m.log2) (b := e + k.log2 + 1) (by grind)
      have a4 : k.log2 < f.fractionBits + 1 := by
        rw [Nat.log2_lt hk0]; exact hk1
      unfold lastOf; omega
    obtain ⟨d, hd⟩ := Int.le.dest hlast
    rw [hk, ← hd, Int.add_comm, pw_add, pw_nat] at n1 n2
    rw [← hd, Int.add_comm, pw_add, pw_nat]
    have hp := pw_pos (lastOf f m p)
    have q1 : keptOf f s m p ≤ k * 2 ^ d := le_nat_of _ _ (lastOf f m p) (by push_cast; grind)
    have q2 : k * 2 ^ d ≤ keptOf f s m p := le_nat_of _ _ (lastOf f m p) (by push_cast; grind)
    have q3 : keptOf f s m p = k * 2 ^ d := by omega
    rw [q3]; push_cast; grind

/-! ### the operations -/
theorem signed_val (s : Bool) (m : Nat) (i base : Int) (h : base ≤ i) : ((signed s m (i - base).toNat : Int) : Rat) * pw base = val s m i := by
  obtain ⟨d, hd⟩ := Int.le.dest h
  have e : (i - base).toNat = d := by omega
  rw [e, ← hd, Int.add_comm]
  have hc : (((m * 2 ^ d : Nat) : Int) : Rat) = (m : Rat) * ((2 ^ d : Nat) : Rat) := by rw [Rat.intCast_natCast, Rat.natCast_mul]
  unfold signed val
  rw [pw_add, pw_nat, Nat.shiftLeft_eq]
  generalize ((2 ^ d : Nat) : Rat) = D at *
  generalize pw base = b at *
  cases s
  · rw [if_neg (by simp), if_neg (by simp), hc]; grind
  · rw [if_pos rfl, if_pos rfl, Rat.intCast_neg, hc]; grind

theorem int_val (t : Int) (s : Bool) (p : Int) : val (if t = 0 then s else decide (t < 0)) t.natAbs p = (t : Rat) * pw p := by
  unfold val
  rcases Int.lt_trichotomy t 0 with h | h | h
  · have e0 : (if t = 0 then s else decide (t < 0)) = true := by rw [if_neg (by omega)]; exact decide_eq_true h
    obtain ⟨n, hn⟩ : ∃ n : Nat, t = -(n : Int) := ⟨t.natAbs, by omega⟩
    rw [e0, if_pos rfl]
    subst hn
    rw [Int.natAbs_neg, Int.natAbs_natCast, Rat.intCast_neg, Rat.intCast_natCast]; grind
  · subst h; simp
  · have e0 : (if t = 0 then s else decide (t < 0)) = false := by rw [if_neg (by omega)]; exact decide_eq_false (by omega)
    obtain ⟨n, hn⟩ : ∃ n : Nat, t = (n : Int) := ⟨t.natAbs, by omega⟩
    rw [e0, if_neg (by simp)]
    subst hn
    rw [Int.natAbs_natCast, Rat.intCast_natCast]; grind

theorem sum_val (s t : Bool) (m n : Nat) (i j : Int) : ∃ q k b, Datum.sum (.number s m i) (.number t n j) = some (.number q k b) ∧ val q k b = val s m i + val t n j := by
  refine ⟨_, _, _, rfl, ?_⟩
  rw [int_val, Rat.intCast_add, Rat.add_mul, signed_val _ _ _ _ (by omega), signed_val _ _ _ _ (by omega)]

theorem val_mul (s t : Bool) (m n : Nat) (i j : Int) : val (s ^^ t) (m * n) (i + j) = val s m i * val t n j := by
  unfold val; rw [pw_add, Rat.natCast_mul]
  cases s <;> cases t <;> simp <;> grind

theorem val_opp (s : Bool) (m : Nat) (i : Int) : val (!s) m i = - val s m i := by
  unfold val; cases s <;> simp <;> grind

theorem add_ok (f : Format) (he : 2 ≤ f.exponentBits) (x y : Nat) (hx : IsNum f x) (hy : IsNum f y) (B : Rat) (h1 : V f x + V f y ≤ B) (h2 : -B ≤ V f x + V f y) (hB : B < pw (top f)) :
    ∃ r, f.add x y = some r ∧ IsNum f r ∧ Near (V f r) (V f x + V f y) ((B * pw (-f.fractionBits) + pw f.leastPlace) / 2) := by
  obtain ⟨s, m, i, hx⟩ := hx
  obtain ⟨t, n, j, hy⟩ := hy
  rw [V_eq hx, V_eq hy] at *
  obtain ⟨q, k, b, h3, h4⟩ := sum_val s t m n i j
  unfold Format.add
  rw [hx, hy, h3]
  refine ⟨_, rfl, ?_⟩
  rw [← h4] at h1 h2 ⊢
  exact write_ok f he q k b B h1 h2 hB

theorem sub_ok (f : Format) (he : 2 ≤ f.exponentBits) (x y : Nat) (hx : IsNum f x) (hy : IsNum f y) (B : Rat) (h1 : V f x - V f y ≤ B) (h2 : -B ≤ V f x - V f y) (hB : B < pw (top f)) :
    ∃ r, f.sub x y = some r ∧ IsNum f r ∧ Near (V f r) (V f x - V f y) ((B * pw (-f.fractionBits) + pw f.leastPlace) / 2) := by
  obtain ⟨s, m, i, hx⟩ := hx
  obtain ⟨t, n, j, hy⟩ := hy
  rw [V_eq hx, V_eq hy] at *
  obtain ⟨q, k, b, h3, h4⟩ := sum_val s (!t) m n i j
  rw [val_opp] at h4
  unfold Format.sub
  rw [hx, hy, show (Datum.number t n j).opposite = .number (!t) n j from rfl, h3]
  refine ⟨_, rfl, ?_⟩
  have h5 : val q k b = val s m i - val t n j := by grind
  rw [← h5] at h1 h2 ⊢
  exact write_ok f he q k b B h1 h2 hB

theorem mul_ok (f : Format) (he : 2 ≤ f.exponentBits) (x y : Nat) (hx : IsNum f x) (hy : IsNum f y) (B : Rat) (h1 : V f x * V f y ≤ B) (h2 : -B ≤ V f x * V f y) (hB : B < pw (top f)) :
    ∃ r, f.mul x y = some r ∧ IsNum f r ∧ Near (V f r) (V f x * V f y) ((B * pw (-f.fractionBits) + pw f.leastPlace) / 2) := by
  obtain ⟨s, m, i, hx⟩ := hx
  obtain ⟨t, n, j, hy⟩ := hy
  rw [V_eq hx, V_eq hy] at *
  unfold Format.mul
  rw [hx, hy, show Datum.product (.number s m i) (.number t n j) = some (.number (s ^^ t) (m * n) (i + j)) from rfl]
  refine ⟨_, rfl, ?_⟩
  rw [← val_mul] at h1 h2 ⊢
  exact write_ok f he _ _ _ B h1 h2 hB

theorem quot_val (s t : Bool) (m n : Nat) (i j : Int) (digits : Nat) (hdig : 1 ≤ digits) (hn : n ≠ 0) :
    ∃ k b, Datum.quotient digits (.number s m i) (.number t n j) = some (.number (s ^^ t) k b) ∧
      ∀ q : Rat, q * ((n : Rat) * pw j) = (m : Rat) * pw i → 0 ≤ q →
        (k : Rat) * pw b ≤ q + q * pw (-(digits : Int)) ∧ q ≤ (k : Rat) * pw b + q * pw (-(digits : Int)) := by
  refine ⟨_, _, by simp only [Datum.quotient, if_neg hn]; rfl, ?_⟩
  intro q hq hq0
  generalize hmore : digits + n.log2 - m.log2 = more
  rw [Nat.shiftLeft_eq]
  have hnp : 0 < n := by omega
  have hdm := Nat.div_add_mod (m * 2 ^ more) n
  have hlt := Nat.mod_lt (m * 2 ^ more) hnp
  by_cases hm : m = 0
  · subst hm
    have hn0 : (n : Rat) * pw j ≠ 0 := by
      have h1 := (size_pw n j hn).1
      have h2 := pw_pos (j + n.log2)
      grind
    have hq00 : q = 0 := by simp at hq; grind
    subst hq00
    have hz : 2 * (0 * 2 ^ more / n) + (0 * 2 ^ more % n != 0).toNat = 0 := by simp
    rw [hz]
    constructor <;> simp <;> grind
  · have hfl : 2 ^ (digits - 1) ≤ m * 2 ^ more / n := by
      rw [Nat.le_div_iff_mul_le hnp]
      have h1 := Nat.log2_self_le hm
      have h2 : n < 2 ^ (n.log2 + 1) := Nat.lt_log2_self
      have h3 : 2 ^ (m.log2 + more) ≤ m * 2 ^ more := by rw [Nat.pow_add]; exact Nat.mul_le_mul_right _ h1
      have h4 : 2 ^ (digits + n.log2) ≤ 2 ^ (m.log2 + more) := Nat.pow_le_pow_right (by omega) (by omega)
      have h5 : 2 ^ (digits - 1) * n ≤ 2 ^ (digits - 1) * 2 ^ (n.log2 + 1) := Nat.mul_le_mul_left _ (by omega)
      rw [← Nat.pow_add, show digits - 1 + (n.log2 + 1) = digits + n.log2 from by omega] at h5
      omega
    generalize hst : (m * 2 ^ more % n != 0).toNat = st
    have hst1 : st = if m * 2 ^ more % n = 0 then 0 else 1 := by
      rw [← hst]; by_cases h0 : m * 2 ^ more % n = 0 <;> simp [h0]
    generalize hD : m * 2 ^ more / n = D at *
    generalize hR : m * 2 ^ more % n = R at *
    -- in whole numbers: twice the dividend lies within one divisor of '(2 D + st) n'
    have w1 : (2 * D + st) * n ≤ 2 * (m * 2 ^ more) + n := by
      rw [Nat.add_mul, Nat.mul_assoc, Nat.mul_comm D n]
      have : st * n ≤ n := by rw [hst1]; split <;> simp
      omega
    have w2 : 2 * (m * 2 ^ more) ≤ (2 * D + st) * n + n := by
      rw [Nat.add_mul, Nat.mul_assoc, Nat.mul_comm D n]
      by_cases h0 : R = 0
      · omega
      · have : st = 1 := by rw [hst1, if_neg h0]
        rw [this]; omega
    have w1' : ((2 * D + st : Nat) : Rat) * n ≤ 2 * (m * pw more) + n := by rw [pw_nat]; exact_mod_cast w1
    have w2' : 2 * (m * pw more) ≤ ((2 * D + st : Nat) : Rat) * n + n := by rw [pw_nat]; exact_mod_cast w2
    generalize ((2 * D + st : Nat) : Rat) = K at *
    have hN : 0 < (n : Rat) := by exact_mod_cast hnp
    -- the unit
    have eb : pw i * pw (-j) = 2 * (pw more * pw (i - j - more - 1)) := by
      rw [← pw_add, ← pw_add, ← pw_succ]; congr 1; omega
    have ej : pw (-j) * pw j = 1 := pw_neg_mul j
    generalize hb : i - j - (more : Int) - 1 = b at *
    have hpb := pw_pos b
    -- q n = m 2^(i-j)
    have hqn : q * n = 2 * (m * pw more) * pw b := by
      have : q * n * (pw j * pw (-j)) = m * (pw i * pw (-j)) := by grind
      rw [Rat.mul_comm (pw j), ej, eb] at this
      grind
    have g1 : K * pw b * n ≤ (q + pw b) * n := by
      have := Rat.mul_le_mul_of_nonneg_right w1' (Rat.le_of_lt hpb)
      grind
    have g2 : q * n ≤ (K * pw b + pw b) * n := by
      have := Rat.mul_le_mul_of_nonneg_right w2' (Rat.le_of_lt hpb)
      grind
    have g1 := Rat.le_of_mul_le_mul_right g1 hN
    have g2 := Rat.le_of_mul_le_mul_right g2 hN
    -- the unit is small against q
    have g3 : pw b ≤ q * pw (-(digits : Int)) := by
      have hdp := pw_pos (-(digits : Int))
      have h1 : 2 ^ (digits - 1) * n ≤ m * 2 ^ more := by
        have := Nat.mul_le_mul_right n hfl
        rw [Nat.mul_comm D] at this
        omega
      have h1' : pw (digits - 1 : Nat) * (n : Rat) ≤ (m * pw more) := by rw [pw_nat, pw_nat]; exact_mod_cast h1
      have e3 : 2 * pw (digits - 1 : Nat) * pw (-(digits : Int)) = 1 := by
        rw [← pw_succ, ← pw_add, ← pw_zero]; congr 1; omega
      have h2 : pw b * n ≤ (q * pw (-(digits : Int))) * n := by
        have a1 := Rat.mul_le_mul_of_nonneg_right h1' (Rat.le_of_lt hpb)
        have a2 := Rat.mul_le_mul_of_nonneg_right a1 (Rat.le_of_lt hdp)
        have a3 : pw b * n = 2 * (pw (digits - 1 : Nat) * n * pw b * pw (-(digits : Int))) := by
          have : 2 * (pw (digits - 1 : Nat) * n * pw b * pw (-(digits : Int))) = (2 * pw (digits - 1 : Nat) * pw (-(digits : Int))) * (pw b * n) := by grind
          rw [this, e3]; grind
        rw [a3]
        have a4 : q * pw (-(digits : Int)) * n = (q * n) * pw (-(digits : Int)) := by grind
        rw [a4, hqn]; grind
      exact Rat.le_of_mul_le_mul_right h2 hN
    constructor <;> grind

theorem quot_signed (s t : Bool) (m n : Nat) (i j : Int) (digits : Nat) (hdig : 1 ≤ digits) (hn : n ≠ 0) (q B : Rat) (hq : q * val t n j = val s m i) (h1 : q ≤ B) (h2 : -B ≤ q) :
    ∃ k b, Datum.quotient digits (.number s m i) (.number t n j) = some (.number (s ^^ t) k b) ∧ Near (val (s ^^ t) k b) q (B * pw (-(digits : Int))) := by
  obtain ⟨k, b, h3, h4⟩ := quot_val s t m n i j digits hdig hn
  refine ⟨k, b, h3, ?_⟩
  have hnp : 0 < (n : Rat) * pw j := by
    have a1 := (size_pw n j hn).1
    have a2 := pw_pos (j + n.log2)
    grind
  have hmp : 0 ≤ (m : Rat) * pw i := by
    have a1 : (0 : Rat) ≤ m := by exact_mod_cast Nat.zero_le m
    exact Rat.mul_nonneg a1 (Rat.le_of_lt (pw_pos i))
  have hd := Rat.le_of_lt (pw_pos (-(digits : Int)))
  -- the quotient's absolute value
  have key : ∀ q' : Rat, q' * ((n : Rat) * pw j) = (m : Rat) * pw i → 0 ≤ q' := by
    intro q' e
    have : 0 * ((n : Rat) * pw j) ≤ q' * ((n : Rat) * pw j) := by rw [e]; grind
    exact Rat.le_of_mul_le_mul_right this hnp
  unfold val at hq ⊢
  unfold Near
  by_cases hst : (s ^^ t) = true
  · have e : (-q) * ((n : Rat) * pw j) = (m : Rat) * pw i := by cases s <;> cases t <;> simp at * <;> grind
    have h0 := key _ e
    obtain ⟨g1, g2⟩ := h4 _ e h0
    have g3 := Rat.mul_le_mul_of_nonneg_right (show -q ≤ B by grind) hd
    rw [if_pos hst]
    constructor <;> grind
  · have e : q * ((n : Rat) * pw j) = (m : Rat) * pw i := by cases s <;> cases t <;> simp at * <;> grind
    have h0 := key _ e
    obtain ⟨g1, g2⟩ := h4 _ e h0
    have g3 := Rat.mul_le_mul_of_nonneg_right h1 hd
    rw [if_neg hst]
    constructor <;> grind

theorem val_ne_zero (t : Bool) (n : Nat) (j : Int) (h : val t n j ≠ 0) : n ≠ 0 := by
  intro e; subst e; exact h (val_zero t j)

theorem div_ok (f : Format) (he : 2 ≤ f.exponentBits) (x y : Nat) (hx : IsNum f x) (hy : IsNum f y) (hy0 : V f y ≠ 0) (q B : Rat) (hq : q * V f y = V f x) (h1 : q ≤ B) (h2 : -B ≤ q) (hB : 2 * B < pw (top f)) :
    ∃ r, f.div x y = some r ∧ IsNum f r ∧ Near (V f r) q (B * (2 * pw (-f.fractionBits)) + pw f.leastPlace) := by
  obtain ⟨s, m, i, hx⟩ := hx
  obtain ⟨t, n, j, hy⟩ := hy
  rw [V_eq hx] at *
  rw [V_eq hy] at *
  obtain ⟨k, b, h3, h4⟩ := quot_signed s t m n i j (f.fractionBits + 2) (by omega) (val_ne_zero _ _ _ hy0) q B hq h1 h2
  unfold Format.div
  rw [hx, hy, h3]
  refine ⟨_, rfl, ?_⟩
  have hu : pw (-((f.fractionBits + 2 : Nat) : Int)) = pw (-(f.fractionBits : Int)) / 4 := by
    have : pw (-(f.fractionBits : Int)) = 2 * (2 * pw (-((f.fractionBits + 2 : Nat) : Int))) := by rw [← pw_succ, ← pw_succ]; congr 1; omega
    rw [this]; grind
  rw [hu] at h4
  have hup := pw_pos (-(f.fractionBits : Int))
  have hu1 : pw (-(f.fractionBits : Int)) ≤ 1 := by rw [← pw_zero]; exact pw_le (by omega)
  have hB0 : 0 ≤ B := by grind
  have hBu := Rat.mul_le_mul_of_nonneg_left hu1 hB0
  obtain ⟨n1, n2⟩ := h4
  have hw := write_ok f he (s ^^ t) k b (B + B * (pw (-(f.fractionBits : Int)) / 4)) (by grind) (by grind) (by grind)
  refine ⟨hw.1, ?_⟩
  obtain ⟨w1, w2⟩ := hw.2
  have hlp := pw_pos f.leastPlace
  have hBuu := Rat.mul_le_mul_of_nonneg_right hBu (Rat.le_of_lt hup)
  have := Rat.mul_nonneg hB0 (Rat.le_of_lt hup)
  generalize pw (-(f.fractionBits : Int)) = u at *
  generalize pw f.leastPlace = l at *
  unfold Near
  constructor <;> grind

theorem read_bound (f : Format) (he : 2 ≤ f.exponentBits) (b : Nat) (s : Bool) (m : Nat) (p : Int) (h : f.read b = .number s m p) :
    m < 2 ^ (f.fractionBits + 1) ∧ f.leastPlace ≤ p ∧ p ≤ f.leastPlace + ((2 ^ f.exponentBits : Nat) - 3) := by
  have h4 : 4 ≤ 2 ^ f.exponentBits := by
    have := Nat.pow_le_pow_right (n := 2) (by omega) he
    simpa using this
  have hb := bin_pos f
  have hb1 : 2 ^ (f.fractionBits + 1) = 2 * f.binade := by rw [Nat.pow_succ, Nat.mul_comm]; rfl
  unfold Format.read at h
  simp only at h
  split at h
  · cases h; omega
  · split at h
    · rename_i h1 h2
      cases h
      have h3 := Nat.mod_lt (b % f.signWeight) hb
      have h5 : b % f.signWeight / f.binade < 2 ^ f.exponentBits - 1 := by
        rw [Nat.div_lt_iff_lt_mul hb]; exact h2
      omega
    · split at h <;> cases h

/-! ### comparisons -/
theorem pw_mul_le (a b : Int) (p : Int) : ((a : Rat) * pw p ≤ (b : Rat) * pw p) ↔ a ≤ b := by
  have hp := pw_pos p
  constructor
  · intro h
    have := Rat.le_of_mul_le_mul_right h hp
    exact_mod_cast this
  · intro h
    have h' : (a : Rat) ≤ (b : Rat) := by exact_mod_cast h
    exact Rat.mul_le_mul_of_nonneg_right h' (Rat.le_of_lt hp)

theorem order_num (f : Format) (x y : Nat) (hx : IsNum f x) (hy : IsNum f y) :
    (f.order x y = some .lt ↔ V f x < V f y) ∧ (f.order x y = some .eq ↔ V f x = V f y) ∧ (f.order x y = some .gt ↔ V f y < V f x) := by
  obtain ⟨s, m, i, hx⟩ := hx
  obtain ⟨t, n, j, hy⟩ := hy
  rw [V_eq hx, V_eq hy]
  unfold Format.order
  rw [hx, hy]
  unfold Datum.order
  simp only
  have e1 := signed_val s m i (min i j) (by omega)
  have e2 := signed_val t n j (min i j) (by omega)
  generalize signed s m (i - min i j).toNat = a at *
  generalize signed t n (j - min i j).toNat = b at *
  rw [← e1, ← e2]
  have l1 := pw_mul_le a b (min i j)
  have l2 := pw_mul_le b a (min i j)
  simp only [Option.some.injEq, Int.compare_eq_lt, Int.compare_eq_eq, Int.compare_eq_gt]
  generalize (a : Rat) * pw (min i j) = A at *
  generalize (b : Rat) * pw (min i j) = C at *
  refine ⟨?_, ?_, ?_⟩ <;> constructor <;> intro h <;> grind

/-- written, it is an infinity of its sign, or a number near what was meant -/
theorem write_or (f : Format) (hb : f.binade ≤ f.infRung) (s : Bool) (m : Nat) (p : Int) (B : Rat) (h1 : val s m p ≤ B) (h2 : -B ≤ val s m p) :
    f.read (f.write (.number s m p)) = .infinity s ∨ (IsNum f (f.write (.number s m p)) ∧ Near (V f (f.write (.number s m p))) (val s m p) ((B * pw (-f.fractionBits) + pw f.leastPlace) / 2)) := by
  have hm := val_abs s m p B h1 h2
  have hw : f.write (.number s m p) = f.nearest s m p := rfl
  rw [hw]
  by_cases h : m = 0
  · right
    subst h
    have : f.nearest s 0 p = f.word s 0 := by unfold Format.nearest; simp
    rw [this]
    refine ⟨⟨_, _, _, zero_read f s⟩, ?_⟩
    rw [V_eq (zero_read f s), val_zero, val_zero]
    rw [val_zero] at h1
    have a1 := pw_pos f.leastPlace
    have a2 := Rat.mul_nonneg h1 (Rat.le_of_lt (pw_pos (-(f.fractionBits : Int))))
    unfold Near; constructor <;> grind
  · by_cases hr : rungOf f s m p < f.infRung
    · right
      obtain ⟨m', p', g1, g2, g3, g4⟩ := read_nearest f s m p h hr
      refine ⟨⟨_, _, _, g1⟩, ?_⟩
      rw [V_eq g1]
      obtain ⟨n1, n2⟩ := kept_near f s m p
      have h6 := last_half f m p h
      rw [← g2] at n1 n2
      obtain ⟨k1, k2⟩ := val_near s m m' p p' _ n1 n2
      have := Rat.mul_le_mul_of_nonneg_right hm (Rat.le_of_lt (pw_pos (-(f.fractionBits : Int))))
      unfold Near
      constructor <;> grind
    · left
      rw [nearest_eq f s m p h, Nat.min_eq_right (by omega), read_word_inf, if_neg (by omega)]

end Flo
end Go.Proofs.YtiakcibeobbonaaGreat

/- Plain facts on numbers of double precision: the quotient of complex numbers, its steps, and how near its product with the divisor lies to the dividend. No program stands in it.
   Conditions: those that each statement names. -/
namespace Go.Proofs.YtiakcibeobbonaaGreat
set_option linter.unusedSimpArgs false
set_option linter.unusedVariables false
namespace Flo
open Ieee

def Ab (x B : Rat) : Prop := -B ≤ x ∧ x ≤ B
theorem Ab.nonneg {x B : Rat} (h : Ab x B) : 0 ≤ B := by unfold Ab at h; grind
theorem Ab.add {x y B D : Rat} (h : Ab x B) (g : Ab y D) : Ab (x + y) (B + D) := by unfold Ab at *; grind
theorem Ab.sub {x y B D : Rat} (h : Ab x B) (g : Ab y D) : Ab (x - y) (B + D) := by unfold Ab at *; grind
theorem Ab.neg {x B : Rat} (h : Ab x B) : Ab (-x) B := by unfold Ab at *; grind
theorem Ab.mono {x B D : Rat} (h : Ab x B) (g : B ≤ D) : Ab x D := by unfold Ab at *; grind
theorem Ab.eq {x y B : Rat} (h : Ab x B) (g : x = y) : Ab y B := g ▸ h
theorem Ab.mul {x y B D : Rat} (h : Ab x B) (g : Ab y D) : Ab (x * y) (B * D) := by
  have hB := h.nonneg
  have hD := g.nonneg
  unfold Ab at *
  obtain ⟨h1, h2⟩ := h
  obtain ⟨g1, g2⟩ := g
  have a1 := Rat.mul_nonneg (show 0 ≤ B - x by grind) (show 0 ≤ D - y by grind)
  have a2 := Rat.mul_nonneg (show 0 ≤ B + x by grind) (show 0 ≤ D + y by grind)
  have a3 := Rat.mul_nonneg (show 0 ≤ B - x by grind) (show 0 ≤ D + y by grind)
  have a4 := Rat.mul_nonneg (show 0 ≤ B + x by grind) (show 0 ≤ D - y by grind)
  constructor <;> grind
/-- a bound on a product, divided by what one factor is at least -/
theorem Ab.div {x y B D : Rat} (h : Ab (x * y) (B * D)) (hD : 0 < D) (g : D ≤ y) : Ab x B := by
  unfold Ab at *
  obtain ⟨h1, h2⟩ := h
  constructor
  · by_cases hx : x ≤ 0
    · have := Rat.mul_nonneg (show 0 ≤ -x by grind) (show 0 ≤ y - D by grind)
      have e : (-x) * D ≤ B * D := by grind
      have := Rat.le_of_mul_le_mul_right e hD
      grind
    · have h0 : 0 * D ≤ B * D := by grind
      have := Rat.le_of_mul_le_mul_right h0 hD
      grind
  · by_cases hx : 0 ≤ x
    · have := Rat.mul_nonneg hx (show 0 ≤ y - D by grind)
      have e : x * D ≤ B * D := by grind
      exact Rat.le_of_mul_le_mul_right e hD
    · have h0 : 0 * D ≤ B * D := by grind
      have := Rat.le_of_mul_le_mul_right h0 hD
      grind

/-! ### double precision -/
abbrev D := Ieee.double
abbrev Nm (b : Nat) : Prop := IsNum Ieee.double b
abbrev W (b : Nat) : Rat := V Ieee.double b
def u : Rat := pw (-53)
def et : Rat := pw (-1074)
theorem u_pos : 0 < u := pw_pos _
theorem et_pos : 0 < et := pw_pos _
theorem u_le : u ≤ 1 / 1048576 := by
  have h : pw (-53) ≤ pw (-20) := pw_le (by omega)
  have e : pw (-20) * pw 20 = 1 := pw_neg_mul 20
  have e2 : pw (20 : Nat) = ((2 ^ 20 : Nat) : Rat) := pw_nat 20
  have e3 : pw 20 = 1048576 := e2
  rw [e3] at e
  unfold u; grind
theorem top_double : top Ieee.double = 1023 := by decide
theorem lp_double : Ieee.double.leastPlace = -1074 := by decide
theorem fb_double : (Ieee.double.fractionBits : Int) = 52 := rfl
theorem err_eq (B : Rat) : (B * pw (-(Ieee.double.fractionBits : Int)) + pw Ieee.double.leastPlace) / 2 = B * u + et / 2 := by
  rw [lp_double, fb_double]
  have : pw (-52) = 2 * pw (-53) := by rw [← pw_succ]; rfl
  unfold u et
  rw [this]; grind

theorem d_add (x y : Nat) (hx : Nm x) (hy : Nm y) (B : Rat) (h : Ab (W x + W y) B) (hB : B < pw 1023) :
    ∃ r, floatBits .add .f64 x y = some r ∧ Nm r ∧ Ab (W r - (W x + W y)) (B * u + et) := by
  obtain ⟨r, h1, h2, h3⟩ := add_ok Ieee.double (by decide) x y hx hy B h.2 h.1 (by rw [top_double]; exact hB)
  rw [err_eq] at h3
  have := et_pos
  refine ⟨r, h1, h2, ?_⟩
  unfold Near at h3; unfold Ab W; grind
theorem d_sub (x y : Nat) (hx : Nm x) (hy : Nm y) (B : Rat) (h : Ab (W x - W y) B) (hB : B < pw 1023) :
    ∃ r, floatBits .sub .f64 x y = some r ∧ Nm r ∧ Ab (W r - (W x - W y)) (B * u + et) := by
  obtain ⟨r, h1, h2, h3⟩ := sub_ok Ieee.double (by decide) x y hx hy B h.2 h.1 (by rw [top_double]; exact hB)
  rw [err_eq] at h3
  have := et_pos
  refine ⟨r, h1, h2, ?_⟩
  unfold Near at h3; unfold Ab W; grind
theorem d_mul (x y : Nat) (hx : Nm x) (hy : Nm y) (B : Rat) (h : Ab (W x * W y) B) (hB : B < pw 1023) :
    ∃ r, floatBits .mul .f64 x y = some r ∧ Nm r ∧ Ab (W r - W x * W y) (B * u + et) := by
  obtain ⟨r, h1, h2, h3⟩ := mul_ok Ieee.double (by decide) x y hx hy B h.2 h.1 (by rw [top_double]; exact hB)
  rw [err_eq] at h3
  have := et_pos
  refine ⟨r, h1, h2, ?_⟩
  unfold Near at h3; unfold Ab W; grind
theorem d_div (x y : Nat) (hx : Nm x) (hy : Nm y) (hy0 : W y ≠ 0) (q B : Rat) (hq : q * W y = W x) (h : Ab q B) (hB : B < pw 1022) :
    ∃ r, floatBits .quo .f64 x y = some r ∧ Nm r ∧ Ab (W r - q) (4 * (B * u) + et) := by
  obtain ⟨r, h1, h2, h3⟩ := div_ok Ieee.double (by decide) x y hx hy hy0 q B hq h.2 h.1 (by
    rw [top_double, show (1023 : Int) = 1022 + 1 from rfl, pw_succ]; grind)
  rw [lp_double, fb_double] at h3
  have e : pw (-52) = 2 * pw (-53) := by rw [← pw_succ]; rfl
  rw [e] at h3
  refine ⟨r, h1, h2, ?_⟩
  unfold Near at h3; unfold Ab W u et; grind

/-! ### Smith's quotient, in exact numbers with bounded errors -/
/-- The two numerators and the denominator: what is left of the dividend. All bounds in units of 'u'. -/
theorem smith (x y c d r m n1 n2 e f q1 q2 S T : Rat) (hc : 0 < c) (hd : Ab d c) (hx : Ab x S) (hy : Ab y S) (hT : T * c = S)
    (hr : Ab (r * c - d) (5 * (u * c))) (hm : Ab (m - (c + r * d)) (8 * (u * c))) (hm2 : c / 2 ≤ m)
    (h1 : Ab (n1 - (x + y * r)) (8 * (u * S))) (h2 : Ab (n2 - (y - x * r)) (8 * (u * S)))
    (hq1 : q1 * m = n1) (hq2 : q2 * m = n2) (he : Ab (e - q1) (33 * (u * T))) (hf : Ab (f - q2) (33 * (u * T))) :
    Ab (e * c - f * d - x) (124 * (u * S)) ∧ Ab (e * d + f * c - y) (124 * (u * S)) := by
  have hcc : Ab c c := by unfold Ab; grind
  have hc2 : (0 : Rat) < c / 2 := by grind
  have hk : 58 * (u * S) + (33 * (u * T) * c + 33 * (u * T) * c) ≤ 124 * (u * S) := by rw [← hT]; clear hr hm h1 h2 he hf hd hx hy; grind
  -- first part
  have a1 : Ab ((q1 * c - q2 * d - x) * m) ((58 * (u * S)) * (c / 2)) := by
    have b1 := (hx.mul hm.neg).add (hy.mul hr)
    have b2 := (h1.mul hcc).sub (h2.mul hd)
    have b3 := b1.add b2
    refine (b3.eq ?_).mono ?_
    · grind
    · grind
  have a2 : Ab ((q1 * d + q2 * c - y) * m) ((58 * (u * S)) * (c / 2)) := by
    have b1 := (hy.mul hm.neg).sub (hx.mul hr)
    have b2 := (h1.mul hd).add (h2.mul hcc)
    have b3 := b1.add b2
    refine (b3.eq ?_).mono ?_
    · grind
    · grind
  have a1 := a1.div hc2 hm2
  have a2 := a2.div hc2 hm2
  have e1 := (he.mul hcc).sub (hf.mul hd)
  have e2 := (he.mul hd).add (hf.mul hcc)
  constructor
  · exact ((a1.add e1).eq (by clear a1 a2 e1 e2 he hf h1 h2 hr hm hd hx hy; grind)).mono hk
  · exact ((a2.add e2).eq (by clear a1 a2 e1 e2 he hf h1 h2 hr hm hd hx hy; grind)).mono hk

/-- the same where 'c' may be negative: 'C' is its absolute value -/
theorem smith' (x y c d r m n1 n2 e f q1 q2 S T C : Rat) (hcC : c = C ∨ c = -C) (hc : 0 < C) (hd : Ab d C) (hx : Ab x S) (hy : Ab y S) (hT : T * C = S)
    (hr : Ab (r * c - d) (5 * (u * C))) (hm : Ab (m - (c + r * d)) (8 * (u * C))) (hm2 : (c = C ∧ C / 2 ≤ m) ∨ (c = -C ∧ C / 2 ≤ -m))
    (h1 : Ab (n1 - (x + y * r)) (8 * (u * S))) (h2 : Ab (n2 - (y - x * r)) (8 * (u * S)))
    (hq1 : q1 * m = n1) (hq2 : q2 * m = n2) (he : Ab (e - q1) (33 * (u * T))) (hf : Ab (f - q2) (33 * (u * T))) :
    Ab (e * c - f * d - x) (124 * (u * S)) ∧ Ab (e * d + f * c - y) (124 * (u * S)) := by
  rcases hm2 with ⟨hcp, hm3⟩ | ⟨hcp, hm3⟩
  · subst hcp
    exact smith x y c d r m n1 n2 e f q1 q2 S T hc hd hx hy hT hr hm hm3 h1 h2 hq1 hq2 he hf
  · subst hcp
    have := smith x y C (-d) r (-m) n1 n2 (-e) (-f) (-q1) (-q2) S T hc hd.neg hx hy hT (hr.neg.eq (show -(r * -C - d) = r * C - -d by grind)) (hm.neg.eq (show -(m - (-C + r * d)) = -m - (C + r * -d) by grind)) hm3 h1 h2
      (show -q1 * -m = n1 by grind) (show -q2 * -m = n2 by grind) (he.neg.eq (show -(e - q1) = -e - -q1 by grind)) (hf.neg.eq (show -(f - q2) = -f - -q2 by grind))
    exact ⟨this.1.eq (by grind), this.2.eq (by grind)⟩

theorem ratio_ok (c d : Nat) (hc : Nm c) (hd : Nm d) (C : Rat) (hcC : W c = C ∨ W c = -C) (hC : 0 < C) (hdC : Ab (W d) C) :
    ∃ r, floatBits .quo .f64 d c = some r ∧ Nm r ∧ Ab (W r * W c - W d) (5 * (u * C)) ∧ Ab (W r) 2 := by
  have hc0 : W c ≠ 0 := by rcases hcC with h | h <;> rw [h] <;> grind
  have hq : (W d / W c) * W c = W d := by grind
  have hq1 : Ab (W d / W c) 1 := by
    rcases hcC with h | h
    · have : Ab ((W d / W c) * W c) (1 * C) := (hdC.eq hq.symm).mono (by grind)
      rw [h] at this
      have := this.div hC Rat.le_refl
      rwa [← h] at this
    · have : Ab ((W d / W c) * (-W c)) (1 * C) := (hdC.neg.eq (by grind)).mono (by grind)
      exact this.div hC (by grind)
  have hb : (1 : Rat) < pw 1022 := by
    have := pw_lt (a := 0) (b := 1022) (by omega); rwa [pw_zero] at this
  obtain ⟨r, h1, h2, h3⟩ := d_div d c hd hc hc0 _ 1 hq hq1 hb
  have hu := u_pos
  have hu1 := u_le
  have hetu : et ≤ u := pw_le (by omega)
  have hcA : Ab (W c) C := by unfold Ab; rcases hcC with h | h <;> rw [h] <;> grind
  refine ⟨r, h1, h2, ?_, ?_⟩
  · have := h3.mul hcA
    refine (this.eq (y := W r * W c - W d) (by grind)).mono ?_
    have := Rat.mul_le_mul_of_nonneg_right hetu (Rat.le_of_lt hC)
    grind
  · exact ((h3.add hq1).eq (by grind)).mono (by grind)

theorem denom_ok (c d r : Nat) (hc : Nm c) (hd : Nm d) (hr : Nm r) (C : Rat) (hcC : W c = C ∨ W c = -C) (hC : 0 < C) (hCt : 4 * C < pw 1023) (hdC : Ab (W d) C) (het : et ≤ u * C)
    (hrc : Ab (W r * W c - W d) (5 * (u * C))) (hr2 : Ab (W r) 2) :
    ∃ rd m, floatBits .mul .f64 r d = some rd ∧ floatBits .add .f64 c rd = some m ∧ Nm m ∧ Ab (W m - (W c + W r * W d)) (8 * (u * C)) ∧ ((W c = C ∧ C / 2 ≤ W m) ∨ (W c = -C ∧ C / 2 ≤ -W m)) := by
  have hu := u_pos
  have hu1 := u_le
  have hcA : Ab (W c) C := by unfold Ab; rcases hcC with h | h <;> rw [h] <;> grind
  have huC : u * C ≤ C / 1048576 := by
    have := Rat.mul_le_mul_of_nonneg_right hu1 (Rat.le_of_lt hC); grind
  have hrd := hr2.mul hdC
  obtain ⟨rd, h1, h2, h3⟩ := d_mul r d hr hd (2 * C) hrd (by grind)
  have h3' : Ab (W rd - W r * W d) (3 * (u * C)) := h3.mono (by grind)
  have hs : Ab (W c + W rd) (4 * C) := ((hcA.add (h3'.add hrd)).eq (by grind)).mono (by grind)
  obtain ⟨m, g1, g2, g3⟩ := d_add c rd hc h2 (4 * C) hs hCt
  have g3' : Ab (W m - (W c + W rd)) (5 * (u * C)) := g3.mono (by grind)
  have hm : Ab (W m - (W c + W r * W d)) (8 * (u * C)) := ((g3'.add h3').eq (by grind)).mono (by grind)
  refine ⟨rd, m, h1, g1, g2, hm, ?_⟩
  have hdd : 0 ≤ W d * W d := by
    rcases Rat.le_total (a := 0) (b := W d) with h | h
    · exact Rat.mul_nonneg h h
    · have := Rat.mul_nonneg (show 0 ≤ -W d by grind) (show 0 ≤ -W d by grind); grind
  have hx := hrc.mul hdC
  rcases hcC with h | h
  · left
    refine ⟨h, ?_⟩
    have k : (0 - 5 * (u * C)) * C ≤ (W r * W d) * C := by unfold Ab at hx; rw [h] at hx; grind
    have := Rat.le_of_mul_le_mul_right k hC
    unfold Ab at hm; grind
  · right
    refine ⟨h, ?_⟩
    have k : (0 - 5 * (u * C)) * C ≤ (-(W r * W d)) * C := by unfold Ab at hx; rw [h] at hx; grind
    have := Rat.le_of_mul_le_mul_right k hC
    unfold Ab at hm; grind

theorem prod_ok (y r : Nat) (hy : Nm y) (hr : Nm r) (S : Rat) (hyS : Ab (W y) S) (hSt : 8 * S < pw 1022) (het : et ≤ u * S) (hr2 : Ab (W r) 2) :
    ∃ p, floatBits .mul .f64 y r = some p ∧ Nm p ∧ Ab (W p - W y * W r) (3 * (u * S)) ∧ Ab (W p) (3 * S) := by
  have hu1 := u_le
  have hS := hyS.nonneg
  have huS : u * S ≤ S / 1048576 := by
    have := Rat.mul_le_mul_of_nonneg_right hu1 hS; grind
  have hp := hyS.mul hr2
  have h10 := pw_lt (a := 1022) (b := 1023) (by omega)
  obtain ⟨p, h1, h2, h3⟩ := d_mul y r hy hr (S * 2) hp (by grind)
  have h3' : Ab (W p - W y * W r) (3 * (u * S)) := h3.mono (by grind)
  exact ⟨p, h1, h2, h3', ((h3'.add hp).eq (by grind)).mono (by grind)⟩

theorem quot_ok (n m : Nat) (hn : Nm n) (hm : Nm m) (S T C : Rat) (hC : 0 < C) (hT : T * C = S) (hTt : 8 * T < pw 1022) (het : et ≤ u * T) (hnS : Ab (W n) (4 * S)) (hmC : C / 2 ≤ W m ∨ C / 2 ≤ -W m) :
    ∃ e, floatBits .quo .f64 n m = some e ∧ Nm e ∧ ∃ q : Rat, q * W m = W n ∧ Ab (W e - q) (33 * (u * T)) ∧ Ab (W e) (9 * T) := by
  have hu1 := u_le
  have hC2 : 0 < C / 2 := by grind
  have hm0 : W m ≠ 0 := by rcases hmC with h | h <;> grind
  have hq : (W n / W m) * W m = W n := by grind
  have hq1 : Ab (W n / W m) (8 * T) := by
    rcases hmC with h | h
    · have : Ab ((W n / W m) * W m) ((8 * T) * (C / 2)) := (hnS.eq hq.symm).mono (by rw [← hT]; grind)
      exact this.div hC2 h
    · have : Ab ((W n / W m) * (-W m)) ((8 * T) * (C / 2)) := (hnS.neg.eq (show -W n = (W n / W m) * (-W m) by grind)).mono (by rw [← hT]; grind)
      exact this.div hC2 h
  have hT0 : 0 ≤ T := by have := hq1.nonneg; grind
  have huT : u * T ≤ T / 1048576 := by
    have := Rat.mul_le_mul_of_nonneg_right hu1 hT0; grind
  obtain ⟨e, h1, h2, h3⟩ := d_div n m hn hm hm0 _ _ hq hq1 hTt
  have h3' : Ab (W e - W n / W m) (33 * (u * T)) := h3.mono (by grind)
  exact ⟨e, h1, h2, _, hq, h3', ((h3'.add hq1).eq (by grind)).mono (by grind)⟩

theorem num_le (x y r n : Rat) (S : Rat) (hx : Ab x S) (hy : Ab y S) (hr : Ab r 2) (h : Ab (n - (x + y * r)) (8 * (u * S))) : Ab n (4 * S) := by
  have hu1 := u_le
  have hS := hx.nonneg
  have huS : u * S ≤ S / 1048576 := by
    have := Rat.mul_le_mul_of_nonneg_right hu1 hS; grind
  exact ((h.add (hx.add (hy.mul hr))).eq (show n - (x + y * r) + (x + y * r) = n by grind)).mono (by grind)

theorem Nm_not_nan {e : Nat} (h : Nm e) : Op.Complex.isNaN e = false := by
  obtain ⟨s, m, p, h⟩ := h
  unfold Op.Complex.isNaN FloatKind.decode
  rw [show FloatKind.f64.format = Ieee.double from rfl, h]; rfl

/-- THE QUOTIENT OF MODERATE NUMBERS: it is valid, finite, and its product with the divisor is near the dividend. -/
theorem quo_ge (a b c d : Nat) (ha : Nm a) (hb : Nm b) (hc : Nm c) (hd : Nm d) (S T C : Rat) (hcC : W c = C ∨ W c = -C) (hC : 0 < C) (hCt : 4 * C < pw 1023) (hdC : Ab (W d) C)
    (haS : Ab (W a) S) (hbS : Ab (W b) S) (hSt : 8 * S < pw 1022) (hT : T * C = S) (hTt : 8 * T < pw 1022) (heC : et ≤ u * C) (heS : et ≤ u * S) (heT : et ≤ u * T) (hge : absGe c d = true) :
    ∃ e f, cQuoBits a b c d = some (e, f) ∧ Nm e ∧ Nm f ∧ Ab (W e) (9 * T) ∧ Ab (W f) (9 * T) ∧ Ab (W e * W c - W f * W d - W a) (124 * (u * S)) ∧ Ab (W e * W d + W f * W c - W b) (124 * (u * S)) := by
  have h10 := pw_lt (a := 1022) (b := 1023) (by omega)
  have hS := haS.nonneg
  have huS : u * S ≤ S / 1048576 := by
    have := Rat.mul_le_mul_of_nonneg_right u_le hS; grind
  obtain ⟨r, r1, r2, r3, r4⟩ := ratio_ok c d hc hd C hcC hC hdC
  obtain ⟨rd, m, m1, m2, m3, m4, m5⟩ := denom_ok c d r hc hd r2 C hcC hC hCt hdC heC r3 r4
  obtain ⟨br, p1, p2, p3, p4⟩ := prod_ok b r hb r2 S hbS hSt heS r4
  obtain ⟨ar, q1, q2, q3, q4⟩ := prod_ok a r ha r2 S haS hSt heS r4
  obtain ⟨n1, s1, s2, s3⟩ := d_add a br ha p2 (4 * S) ((haS.add p4).mono (by grind)) (by grind)
  obtain ⟨n2, t1, t2, t3⟩ := d_sub b ar hb q2 (4 * S) ((hbS.sub q4).mono (by grind)) (by grind)
  have s3' : Ab (W n1 - (W a + W b * W r)) (8 * (u * S)) := ((s3.add p3).eq (by grind)).mono (by grind)
  have t3' : Ab (W n2 - (W b - W a * W r)) (8 * (u * S)) := ((t3.sub q3).eq (by grind)).mono (by grind)
  have mm : C / 2 ≤ W m ∨ C / 2 ≤ -W m := by rcases m5 with h | h; exact .inl h.2; exact .inr h.2
  have l1 := num_le _ _ _ _ S haS hbS r4 s3'
  have l2 := num_le _ (-W a) _ _ S hbS haS.neg r4 (t3'.eq (show W n2 - (W b - W a * W r) = W n2 - (W b + -W a * W r) by grind))
  obtain ⟨e, e1, e2, qe, e3, e4, e5⟩ := quot_ok n1 m s2 m3 S T C hC hT hTt heT l1 mm
  obtain ⟨f, f1, f2, qf, f3, f4, f5⟩ := quot_ok n2 m t2 m3 S T C hC hT hTt heT l2 mm
  refine ⟨e, f, ?_, e2, f2, e5, f5, smith' _ _ _ _ _ _ _ _ _ _ _ _ S T C hcC hC hdC haS hbS hT r3 m4 m5 s3' t3' e3 f3 e4 f4⟩
  unfold cQuoBits
  simp only [hge, if_true, r1, m1, m2, p1, q1, s1, t1, e1, f1, Option.bind_some, Nm_not_nan e2, Bool.false_and, Bool.not_false]

theorem quo_lt (a b c d : Nat) (ha : Nm a) (hb : Nm b) (hc : Nm c) (hd : Nm d) (S T C : Rat) (hdC : W d = C ∨ W d = -C) (hC : 0 < C) (hCt : 4 * C < pw 1023) (hcC : Ab (W c) C)
    (haS : Ab (W a) S) (hbS : Ab (W b) S) (hSt : 8 * S < pw 1022) (hT : T * C = S) (hTt : 8 * T < pw 1022) (heC : et ≤ u * C) (heS : et ≤ u * S) (heT : et ≤ u * T) (hge : absGe c d = false) :
    ∃ e f, cQuoBits a b c d = some (e, f) ∧ Nm e ∧ Nm f ∧ Ab (W e) (9 * T) ∧ Ab (W f) (9 * T) ∧ Ab (W e * W c - W f * W d - W a) (124 * (u * S)) ∧ Ab (W e * W d + W f * W c - W b) (124 * (u * S)) := by
  have h10 := pw_lt (a := 1022) (b := 1023) (by omega)
  have hS := haS.nonneg
  have huS : u * S ≤ S / 1048576 := by
    have := Rat.mul_le_mul_of_nonneg_right u_le hS; grind
  obtain ⟨r, r1, r2, r3, r4⟩ := ratio_ok d c hd hc C hdC hC hcC
  obtain ⟨rd, m, m1, m2, m3, m4, m5⟩ := denom_ok d c r hd hc r2 C hdC hC hCt hcC heC r3 r4
  obtain ⟨ar, p1, p2, p3, p4⟩ := prod_ok a r ha r2 S haS hSt heS r4
  obtain ⟨br, q1, q2, q3, q4⟩ := prod_ok b r hb r2 S hbS hSt heS r4
  obtain ⟨n1, s1, s2, s3⟩ := d_add ar b p2 hb (4 * S) ((p4.add hbS).mono (by grind)) (by grind)
  obtain ⟨n2, t1, t2, t3⟩ := d_sub br a q2 ha (4 * S) ((q4.sub haS).mono (by grind)) (by grind)
  have s3' : Ab (W n1 - (W b + W a * W r)) (8 * (u * S)) := ((s3.add p3).eq (by grind)).mono (by grind)
  have t3' : Ab (-W n2 - (W a - W b * W r)) (8 * (u * S)) := ((t3.add q3).neg.eq (by grind)).mono (by grind)
  have mm : C / 2 ≤ W m ∨ C / 2 ≤ -W m := by rcases m5 with h | h; exact .inl h.2; exact .inr h.2
  have l1 := num_le _ _ _ _ S hbS haS r4 s3'
  have l2 := num_le _ (-W b) _ _ S haS hbS.neg r4 (t3'.eq (show -W n2 - (W a - W b * W r) = -W n2 - (W a + -W b * W r) by grind))
  obtain ⟨e, e1, e2, qe, e3, e4, e5⟩ := quot_ok n1 m s2 m3 S T C hC hT hTt heT l1 mm
  obtain ⟨f, f1, f2, qf, f3, f4, f5⟩ := quot_ok n2 m t2 m3 S T C hC hT hTt heT (l2.neg.eq (show - -W n2 = W n2 by grind)) mm
  have key := smith' (W b) (W a) (W d) (W c) (W r) (W m) (W n1) (-W n2) (W e) (-W f) qe (-qf) S T C hdC hC hcC hbS haS hT r3 m4 m5 s3' t3' e3 (show -qf * W m = -W n2 by grind) e4 (f4.neg.eq (show -(W f - qf) = -W f - -qf by grind))
  refine ⟨e, f, ?_, e2, f2, e5, f5, key.2.eq (by grind), key.1.eq (by grind)⟩
  unfold cQuoBits
  simp only [hge, r1, m1, m2, p1, q1, s1, t1, e1, f1, Option.bind_some, Nm_not_nan e2, Bool.false_and, Bool.not_false, Bool.false_eq_true, if_false, if_true]

/-! ### halves and doubles are exact -/
theorem read_two : Ieee.double.read 4611686018427387904 = .number false 4503599627370496 (-51) := by decide
theorem half_exact (x : Nat) (s : Bool) (m : Nat) (p : Int) (h : Ieee.double.read x = .number s m p) (hp : -1074 < p) :
    ∃ r m' p', floatBits .quo .f64 x 4611686018427387904 = some r ∧ Ieee.double.read r = .number s m' p' ∧ (m' : Rat) * pw p' = (m : Rat) * pw (p - 1) := by
  obtain ⟨b1, b2, b3⟩ := read_bound Ieee.double (by decide) x s m p h
  have hm53 : m < 9007199254740992 := b1
  unfold floatBits Ieee.Format.div
  show ∃ r m' p', Option.map Ieee.double.write (Datum.quotient _ (Ieee.double.read x) (Ieee.double.read 4611686018427387904)) = some r ∧ _
  rw [h, read_two]
  by_cases hm : m = 0
  · subst hm
    simp only [Datum.quotient]
    rw [if_neg (by decide)]
    simp only [Nat.zero_shiftLeft, Nat.zero_div, Nat.zero_mod, bne_self_eq_false, Bool.toNat_false, Option.map_some, Bool.xor_false]
    refine ⟨_, 0, Ieee.double.leastPlace, rfl, ?_, by simp⟩
    show Ieee.double.read (Ieee.double.nearest s 0 _) = _
    unfold Format.nearest
    rw [if_pos rfl]
    exact zero_read Ieee.double s
  · have hl : m.log2 ≤ 52 := by
      have : m.log2 < 53 := (Nat.log2_lt hm).2 (by simpa using hm53)
      omega
    have hl2 : Nat.log2 4503599627370496 = 52 := by decide
    simp only [Datum.quotient]
    rw [if_neg (by decide), hl2]
    rw [show (FloatKind.f64.format.fractionBits + 2 + 52 - m.log2 : Nat) = 52 + (54 - m.log2) from by
      have : FloatKind.f64.format.fractionBits = 52 := rfl
      omega]
    generalize hk : 54 - m.log2 = k
    have e1 : m <<< (52 + k) = m * 2 ^ k * 4503599627370496 := by
      rw [Nat.shiftLeft_eq, Nat.add_comm, Nat.pow_add, Nat.mul_assoc]
    rw [e1, Nat.mul_div_cancel _ (by decide), Nat.mul_mod_left]
    simp only [bne_self_eq_false, Bool.toNat_false, Nat.add_zero, Option.map_some, Bool.xor_false]
    have hv : ((2 * (m * 2 ^ k) : Nat) : Rat) * pw (p - -51 - ((52 + k : Nat) : Int) - 1) = (m : Rat) * pw (p - 1) := by
      have e : pw (p - 1) = pw ((k + 1 : Nat) : Int) * pw (p - -51 - ((52 + k : Nat) : Int) - 1) := by rw [← pw_add]; congr 1; omega
      rw [e, pw_nat, Nat.pow_succ]
      push_cast
      grind
    have ht := (size_pw m (p - 1) hm).2
    have hp971 : p ≤ 971 := by
      rw [lp_double] at b3
      have : (2 ^ Ieee.double.exponentBits : Nat) = 2048 := by decide
      omega
    have h5 := pw_le (show p - 1 + (m.log2 : Int) + 1 ≤ 1023 by omega)
    obtain ⟨m', p', w1, w2, w3, w4⟩ := write_exact Ieee.double (by decide) s _ _ m (p - 1) hv b1 (by rw [lp_double]; omega) (by rw [hv, top_double]; grind)
    exact ⟨_, m', p', rfl, w1, by rw [w4, hv]⟩

/-- half of a positive power of two -/
theorem half_pw (x : Nat) (j : Nat) (hj : j ≤ 900) (hx : Nm x) (hv : W x = pw (-(j : Int))) :
    ∃ r, floatBits .quo .f64 x 4611686018427387904 = some r ∧ Nm r ∧ W r = pw (-((j + 1 : Nat) : Int)) := by
  obtain ⟨s, m, p, h⟩ := hx
  have b1 := (read_bound Ieee.double (by decide) x s m p h).1
  have hm53 : m < 9007199254740992 := b1
  rw [show W x = val s m p from V_eq h] at hv
  have hpos := pw_pos (-(j : Int))
  have hmp : 0 ≤ (m : Rat) * pw p := by
    have a1 : (0 : Rat) ≤ m := by exact_mod_cast Nat.zero_le m
    exact Rat.mul_nonneg a1 (Rat.le_of_lt (pw_pos p))
  have hs : s = false := by
    cases s
    · rfl
    · unfold val at hv; simp at hv; grind
  subst hs
  have hv' : (m : Rat) * pw p = pw (-(j : Int)) := by unfold val at hv; simp at hv; grind
  have hm0 : m ≠ 0 := by intro e; subst e; simp at hv'; grind
  have hl : m.log2 ≤ 52 := by
    have : m.log2 < 53 := (Nat.log2_lt hm0).2 (by simpa using hm53)
    omega
  have hp : -1074 < p := by
    have := (size_pw m p hm0).2
    rw [hv'] at this
    have := lt_of_pw_lt this
    omega
  obtain ⟨r, m', p', h1, h2, h3⟩ := half_exact x false m p h hp
  refine ⟨r, h1, ⟨_, _, _, h2⟩, ?_⟩
  rw [show W r = val false m' p' from V_eq h2]
  unfold val
  rw [h3]
  have e1 : pw p = 2 * pw (p - 1) := by rw [← pw_succ]; congr 1; omega
  have e2 : pw (-(j : Int)) = 2 * pw (-((j + 1 : Nat) : Int)) := by rw [← pw_succ]; congr 1; omega
  simp only [Bool.false_eq_true, if_false]
  grind

/-- a sum of numbers is valid: an infinity, or a number near the exact sum -/
theorem d_add_or (x y : Nat) (hx : Nm x) (hy : Nm y) (B : Rat) (h : Ab (W x + W y) B) :
    ∃ r, floatBits .add .f64 x y = some r ∧ ((∃ s, Ieee.double.read r = .infinity s) ∨ (Nm r ∧ Ab (W r - (W x + W y)) (B * u + et))) := by
  obtain ⟨s, m, i, hx⟩ := hx
  obtain ⟨t, n, j, hy⟩ := hy
  unfold W at *
  rw [V_eq hx, V_eq hy] at *
  obtain ⟨q, k, b, h3, h4⟩ := sum_val s t m n i j
  have e : floatBits .add .f64 x y = some (Ieee.double.write (.number q k b)) := by
    show Ieee.double.add x y = _
    unfold Format.add
    rw [hx, hy, h3]; rfl
  rw [← h4] at h ⊢
  refine ⟨_, e, ?_⟩
  rcases write_or Ieee.double (by decide) q k b B h.2 h.1 with g | ⟨g1, g2⟩
  · exact .inl ⟨_, g⟩
  · right
    rw [err_eq] at g2
    have := et_pos
    refine ⟨g1, ?_⟩
    unfold Near at g2; unfold Ab; grind

end Flo
end Go.Proofs.YtiakcibeobbonaaGreat

/- The walks of the small functions on numbers: what each returns, as a function of its arguments' bits.
   Conditions: none beyond those that each statement names. -/
namespace Go.Proofs.YtiakcibeobbonaaGreat
set_option linter.unusedSimpArgs false
set_option linter.unusedVariables false
open Go Go.RowKit

theorem order_self (k : FloatKind) (x : Nat) : (k.format.order x x == some .eq) = !(k.decode x).isNaN := by
  unfold Ieee.Format.order FloatKind.decode
  cases h : k.format.read x <;> simp [Ieee.Datum.order, Ieee.Datum.isNaN]

theorem isNaN_any (x : Nat) (w : World) :
    Calls Tryz.prog 84 #[.float .f64 x] w fun e w' => e = .returned (.bool (FloatKind.f64.decode x).isNaN) ∧ w = w' := by
  go_enter Tryz.func84, Tryz.ntmps84
  go_wp2
  all_goals (go_ret; exact ⟨by simp [bne, order_self], rfl⟩)

theorem fin_iff (k : FloatKind) (x : Nat) : fin k x = true ↔ Flo.IsNum k.format x := by
  unfold fin Flo.IsNum FloatKind.decode
  cases k.format.read x <;> simp

theorem fab_of_fin {k : FloatKind} {x : Nat} (h : fin k x = true) : fab k x = some x := by
  apply fab_some
  unfold fin at h
  cases hd : k.decode x <;> simp [hd] at h
  rfl

/-- 'x - x' is 0 exactly where x is a number -/
theorem sub_self_fin (w : World) (x : Nat) : (FloatKind.f64.format.order (fres w .sub .f64 x x) 0 == some .eq) = fin .f64 x := by
  have hz : Ieee.double.read 0 = .number false 0 (-1074) := by decide
  cases h : fin .f64 x with
  | true =>
    have hx := (fin_iff .f64 x).1 h
    have h0 : (0 : Rat) < Flo.pw 1023 := Flo.pw_pos _
    obtain ⟨r, h1, h2, h3⟩ := Flo.d_sub x x hx hx 0 ⟨by grind, by grind⟩ h0
    obtain ⟨s, m, i, hr⟩ := hx
    have e : floatBits .sub .f64 x x = some 0 := by
      unfold floatBits Ieee.Format.sub
      rw [hr]
      unfold Ieee.Datum.opposite Ieee.Datum.sum
      simp only [Int.min_self, Int.sub_self, Int.toNat_zero]
      have : Ieee.signed s m 0 + Ieee.signed (!s) m 0 = 0 := by unfold Ieee.signed; cases s <;> simp <;> omega
      rw [this]
      cases s <;> rfl
    have : fres w .sub .f64 x x = 0 := by unfold fres; rw [e]
    rw [this]; decide
  | false =>
    have hn : floatBits .sub .f64 x x = none := by
      unfold floatBits Ieee.Format.sub
      unfold fin FloatKind.decode at h
      cases hd : FloatKind.f64.format.read x with
      | number => rw [hd] at h; simp at h
      | infinity s => cases s <;> rfl
      | nan => simp [Ieee.Datum.sum]
    have hN : (FloatKind.f64.decode (fres w .sub .f64 x x)).isNaN = true := by
      unfold fres; rw [hn]; exact nan_cut _ _ _ _
    unfold FloatKind.decode at hN
    unfold Ieee.Format.order
    cases hd : FloatKind.f64.format.read (fres w .sub .f64 x x) <;> rw [hd] at hN <;> simp [Ieee.Datum.isNaN] at hN
    simp [Ieee.Datum.order]

theorem l1Finite_any (x : Nat) (w : World) :
    Calls Tryz.prog 46 #[.float .f64 x] w fun e w' => e = .returned (.bool (fin .f64 x)) ∧ ∃ n, w' = w.drewN n := by
  go_enter Tryz.func46, Tryz.ntmps46
  go_wp2
  all_goals (go_ret; exact ⟨by simp [sub_self_fin], _, rfl⟩)

theorem finiteDouble_any (x y : Nat) (w : World) :
    Calls Tryz.prog 101 #[.complex .f64 x y] w fun e w' => e = .returned (.bool (fin .f64 x && fin .f64 y)) ∧ ∃ n, w' = w.drewN n := by
  cases hx : fin .f64 x
  all_goals
    go_enter Tryz.func101, Tryz.ntmps101
    go_wp2_with (go_at_call 46; refine (l1Finite_any _ _).mono ?_; rintro e w' ⟨rfl, n, rfl⟩)
    all_goals (go_ret; exact ⟨by simp, _, rfl⟩)

/-- the absolute value, never -0 -/
def labs (x : Nat) : Nat := if FloatKind.f64.format.order x 0 = some .lt then Op.negFloat .f64 x else if FloatKind.f64.format.order x 0 = some .eq then 0 else x
theorem l1Abs_any (x : Nat) (w : World) :
    Calls Tryz.prog 98 #[.float .f64 x] w fun e w' => e = .returned (.float .f64 (labs x)) ∧ w = w' := by
  go_enter Tryz.func98, Tryz.ntmps98
  go_wp2
  all_goals (go_ret; refine ⟨?_, rfl⟩; simp_all [labs])

theorem call_bits (x : Nat) (w : World) : (callFunc 103 #[.float .f64 x]).run Tryz.prog w = .ok (.value (.int .u64 x)) w := by
  rw [run_callFunc_extern (P := Tryz.prog) (f := 103) Tryz.func103 (by kernel_rfl) (by kernel_rfl) (by kernel_rfl) (e := Extern.MathFloatBits.float64bits) (by kernel_rfl)]
  rfl
theorem call_frombits (n : Int) (w : World) : (callFunc 112 #[.int .u64 n]).run Tryz.prog w = .ok (.value (.float .f64 n.toNat)) w := by
  rw [run_callFunc_extern (P := Tryz.prog) (f := 112) Tryz.func112 (by kernel_rfl) (by kernel_rfl) (by kernel_rfl) (e := Extern.MathFloatBits.float64frombits) (by kernel_rfl)]
  rfl

def signBit : Nat := 2 ^ 63
theorem andNot_sign (x : Nat) (hx : x < 2 ^ 64) : (bits .andNot .u64 x 9223372036854775808).toNat = x % signBit := by
  have e := u64_andNot_nat x 9223372036854775808 hx (by decide)
  have e2 : x &&& (2 ^ 63 - 1) = x % 2 ^ 63 := Nat.and_two_pow_sub_one_eq_mod x 63
  rw [show ((9223372036854775808 : Nat) : Int) = 9223372036854775808 from rfl] at e
  rw [e, Int.toNat_natCast]
  exact e2

theorem abs_any (x : Nat) (w : World) (hx : x < 2 ^ 64) :
    Calls Tryz.prog 96 #[.float .f64 x] w fun e w' => e = .returned (.float .f64 (x % signBit)) ∧ w = w' := by
  have h1 := call_bits x
  have h2 := call_frombits
  have h3 := andNot_sign x hx
  go_enter Tryz.func96, Tryz.ntmps96
  go_wp2
  go_ret
  exact ⟨rfl, rfl⟩

theorem mod_read (x : Nat) : FloatKind.f64.decode (x % signBit) = match FloatKind.f64.decode x with | .number _ m p => .number false m p | .infinity _ => .infinity false | .nan _ f => .nan false f := by
  have e : x % signBit % Ieee.double.signWeight = x % Ieee.double.signWeight := Nat.mod_mod _ _
  have e2 : (x % signBit / Ieee.double.signWeight % 2 == 1) = false := by
    rw [show Ieee.double.signWeight = signBit from rfl, Nat.div_eq_of_lt (Nat.mod_lt _ (by decide))]; rfl
  show Ieee.double.read _ = match Ieee.double.read x with | .number _ m p => .number false m p | .infinity _ => .infinity false | .nan _ f => .nan false f
  unfold Ieee.Format.read
  simp only [e, e2]
  split
  · rfl
  · split
    · rfl
    · split <;> rfl

def maxBits : Nat := 9218868437227405311
theorem read_max : Ieee.double.read maxBits = .number false 9007199254740991 971 := by decide
theorem num_le_max (x : Nat) (s : Bool) (m : Nat) (p : Int) (h : Ieee.double.read x = .number s m p) : (m : Rat) * Flo.pw p ≤ ((9007199254740991 : Nat) : Rat) * Flo.pw 971 := by
  obtain ⟨b1, b2, b3⟩ := Flo.read_bound Ieee.double (by decide) x s m p h
  rw [Flo.lp_double] at b2 b3
  have b4 : p ≤ 971 := by
    have : (2 ^ Ieee.double.exponentBits : Nat) = 2048 := by decide
    omega
  have b5 : m ≤ 9007199254740991 := by
    have : 2 ^ (Ieee.double.fractionBits + 1) = 9007199254740992 := by decide
    omega
  have c1 : (m : Rat) ≤ ((9007199254740991 : Nat) : Rat) := by exact_mod_cast b5
  have c2 := Flo.pw_le b4
  have c3 := Rat.mul_le_mul_of_nonneg_right c1 (Rat.le_of_lt (Flo.pw_pos p))
  have c4 := Rat.mul_le_mul_of_nonneg_left c2 (show (0 : Rat) ≤ ((9007199254740991 : Nat) : Rat) by decide)
  grind

theorem inf_order (x : Nat) : (FloatKind.f64.format.order (x % signBit) maxBits == some .gt) = (FloatKind.f64.decode x).isInfinity := by
  have h := mod_read x
  show (Ieee.double.order (x % signBit) maxBits == some .gt) = (Ieee.double.read x).isInfinity
  have h : Ieee.double.read (x % signBit) = _ := h
  cases hd : Ieee.double.read x with
  | number s m p =>
    rw [show FloatKind.f64.decode x = _ from hd] at h
    have o := (Flo.order_num Ieee.double (x % signBit) maxBits ⟨_, _, _, h⟩ ⟨_, _, _, read_max⟩).2.2
    rw [Flo.V_eq h, Flo.V_eq read_max] at o
    have hle := num_le_max x s m p hd
    have hno : ¬ Flo.val false 9007199254740991 971 < Flo.val false m p := by
      unfold Flo.val; simp only [Bool.false_eq_true, if_false]; grind
    have hg : ¬ Ieee.double.order (x % signBit) maxBits = some .gt := fun e => hno (o.1 e)
    simpa [Ieee.Datum.isInfinity] using hg
  | infinity s =>
    rw [show FloatKind.f64.decode x = _ from hd] at h
    unfold Ieee.Format.order
    rw [h, read_max]; rfl
  | nan s f =>
    rw [show FloatKind.f64.decode x = _ from hd] at h
    unfold Ieee.Format.order
    rw [h]; rfl

theorem isInf_any (x : Nat) (w : World) (hx : x < 2 ^ 64) :
    Calls Tryz.prog 102 #[.float .f64 x, .int .i64 0] w fun e w' => e = .returned (.bool (FloatKind.f64.decode x).isInfinity) ∧ w = w' := by
  have h := inf_order x
  unfold maxBits at h
  go_enter Tryz.func102, Tryz.ntmps102
  go_wp2_with (go_at_call 96; refine (abs_any _ _ hx).mono ?_; rintro e w' ⟨rfl, rfl⟩)
  all_goals (go_ret; exact ⟨by simp, rfl⟩)

theorem isFinitePart_any (x : Nat) (w : World) (hx : x < 2 ^ 64) :
    Calls Tryz.prog 75 #[.float .f64 x] w fun e w' => e = .returned (.bool (fin .f64 x)) ∧ w = w' := by
  have hf : fin .f64 x = (!(FloatKind.f64.decode x).isNaN && !(FloatKind.f64.decode x).isInfinity) := by
    unfold fin; cases FloatKind.f64.decode x <;> rfl
  cases hn : (FloatKind.f64.decode x).isNaN
  all_goals
    go_enter Tryz.func75, Tryz.ntmps75
    go_wp2_with (first | (go_at_call 84; refine (isNaN_any _ _).mono ?_; rintro e w' ⟨rfl, rfl⟩) | (go_at_call 102; refine (isInf_any _ _ hx).mono ?_; rintro e w' ⟨rfl, rfl⟩))
    all_goals (go_ret; exact ⟨by simp [hf, hn], rfl⟩)

theorem implFinite_any (x y : Nat) (w : World) (hx : x < 2 ^ 64) (hy : y < 2 ^ 64) :
    Calls Tryz.prog 120 #[.complex .f64 x y] w fun e w' => e = .returned (.bool (fin .f64 x && fin .f64 y)) ∧ w = w' := by
  cases hf : fin .f64 x
  all_goals
    go_enter Tryz.func120, Tryz.ntmps120
    go_wp2_with (go_at_call 75; refine (isFinitePart_any _ _ (by assumption)).mono ?_; rintro e w' ⟨rfl, rfl⟩)
    all_goals (go_ret; exact ⟨by simp, rfl⟩)

/-! ### products and quotients -/
def mulRe (a b c d : Option Nat) : Option Nat := fA .sub .f64 (fA .mul .f64 a c) (fA .mul .f64 b d)
def mulIm (a b c d : Option Nat) : Option Nat := fA .add .f64 (fA .mul .f64 a d) (fA .mul .f64 b c)
theorem implMul_any (a b c d : Nat) (w : World) :
    Calls Tryz.prog 119 #[.complex .f64 a b, .complex .f64 c d] w fun e w' => ∃ p q n, e = .returned (.complex .f64 p q) ∧ w' = w.drewN n ∧
      fab .f64 p = mulRe (fab .f64 a) (fab .f64 b) (fab .f64 c) (fab .f64 d) ∧ fab .f64 q = mulIm (fab .f64 a) (fab .f64 b) (fab .f64 c) (fab .f64 d) ∧ p < 2 ^ 64 ∧ q < 2 ^ 64 := by
  go_enter Tryz.func119, Tryz.ntmps119
  go_wp2
  all_goals (go_ret; exact ⟨_, _, _, rfl, rfl, by simp only [fab_fres]; rfl, by simp only [fab_fres]; rfl, fres_wf _ _ _ _ _, fres_wf _ _ _ _ _⟩)


def DivPost (a b c d : Nat) (w : World) (e : Ending) (w' : World) : Prop := e = .returned (divV (divD a b c d)) ∧ ∃ n, w' = w.drewN n

/-! ### the law's own small functions -/
def SmallPost (a b c d k : Nat) (w : World) (e : Ending) (w' : World) : Prop := ∃ w1 w2 w3 n,
  e = .returned (.bool (FloatKind.f64.format.order (fres w3 .add .f64 (labs (fres w1 .sub .f64 a c)) (labs (fres w2 .sub .f64 b d))) k == some .lt ||
    FloatKind.f64.format.order (fres w3 .add .f64 (labs (fres w1 .sub .f64 a c)) (labs (fres w2 .sub .f64 b d))) k == some .eq)) ∧ w' = w.drewN n
def PowPost (j : Nat) (w : World) (e : Ending) (w' : World) : Prop := ∃ b, e = .returned (.float .f64 b) ∧ w = w' ∧ Flo.Nm b ∧ Flo.W b = Flo.pw (-(j : Int))
theorem one_num : Flo.Nm 4607182418800017408 ∧ Flo.W 4607182418800017408 = Flo.pw (-((0 : Nat) : Int)) := by
  have h : Ieee.double.read 4607182418800017408 = .number false 4503599627370496 (-52) := by decide
  refine ⟨⟨_, _, _, h⟩, ?_⟩
  rw [show Flo.W 4607182418800017408 = _ from Flo.V_eq h]
  unfold Flo.val
  rw [show (-((0 : Nat) : Int)) = -52 + (52 : Nat) from rfl, Flo.pw_add, Flo.pw_nat]
  simp only [Bool.false_eq_true, if_false]
  have : ((2 ^ 52 : Nat) : Rat) = ((4503599627370496 : Nat) : Rat) := rfl
  rw [this]; grind

/-- the bits of 2 to the power -j -/
def powB : Nat → Nat
  | 0 => 4607182418800017408
  | j + 1 => (floatBits .quo .f64 (powB j) 4611686018427387904).getD 0
theorem powB_ok : ∀ j, j ≤ 900 → Flo.Nm (powB j) ∧ Flo.W (powB j) = Flo.pw (-(j : Int))
  | 0, _ => one_num
  | j + 1, hj => by
    obtain ⟨h1, h2⟩ := powB_ok j (by omega)
    obtain ⟨r, r1, r2, r3⟩ := Flo.half_pw (powB j) j (by omega) h1 h2
    have e : powB (j + 1) = r := by simp only [powB, r1, Option.getD_some]
    rw [e]; exact ⟨r2, r3⟩
theorem powB_half (j : Nat) (hj : j ≤ 900) : floatBits .quo .f64 (powB j) 4611686018427387904 = some (powB (j + 1)) := by
  obtain ⟨h1, h2⟩ := powB_ok j (by omega)
  obtain ⟨r, r1, -, -⟩ := Flo.half_pw (powB j) j (by omega) h1 h2
  simp only [powB, r1, Option.getD_some]

/-! ### absolute values and sizes -/
def ra (q : Rat) : Rat := if q < 0 then -q else q
theorem ra_nonneg (q : Rat) : 0 ≤ ra q := by unfold ra; split <;> grind
theorem zero_num : Flo.Nm 0 ∧ Flo.W 0 = 0 := by
  have h : Ieee.double.read 0 = .number false 0 (-1074) := by decide
  exact ⟨⟨_, _, _, h⟩, by rw [show Flo.W 0 = _ from Flo.V_eq h]; exact Flo.val_zero _ _⟩
theorem neg_read (x : Nat) (hx : x < 2 ^ 64) (s : Bool) (m : Nat) (p : Int) (h : Ieee.double.read x = .number s m p) : Ieee.double.read (Op.negFloat .f64 x) = .number (!s) m p := by
  have hsw : Ieee.double.signWeight = 2 ^ 63 := rfl
  have e : Op.negFloat .f64 x = x ^^^ 2 ^ 63 := rfl
  rw [e]
  by_cases hb : x < 2 ^ 63
  · have e2 : x ^^^ 2 ^ 63 = x + 2 ^ 63 := by
      have h1 : x ^^^ 2 ^ 63 = x ||| 2 ^ 63 := by
        apply Nat.eq_of_testBit_eq
        intro i
        rw [Nat.testBit_xor, Nat.testBit_or, Nat.testBit_two_pow]
        by_cases hi : 63 = i
        · subst hi; rw [Nat.testBit_lt_two_pow hb]; simp
        · simp [hi]
      rw [h1, Nat.or_comm]
      exact (Nat.two_pow_add_eq_or_of_lt hb 1 ▸ by omega)
    rw [e2]
    unfold Ieee.Format.read at h ⊢
    rw [hsw] at h ⊢
    simp only [Nat.add_mod_right, Nat.mod_eq_of_lt hb] at h ⊢
    have d1 : (x / 2 ^ 63 % 2 == 1) = false := by rw [Nat.div_eq_of_lt hb]; rfl
    have d2 : ((x + 2 ^ 63) / 2 ^ 63 % 2 == 1) = true := by rw [Nat.add_div_right _ (by decide), Nat.div_eq_of_lt hb]; rfl
    rw [d1] at h; rw [d2]
    split at h
    · rename_i g; cases h; rw [if_pos g]; rfl
    · rename_i g
      split at h
      · rename_i g2; cases h; rw [if_neg g, if_pos g2]; rfl
      · split at h <;> cases h
  · obtain ⟨y, rfl⟩ : ∃ y, x = 2 ^ 63 + y := ⟨x - 2 ^ 63, by omega⟩
    have hy : y < 2 ^ 63 := by omega
    have e2 : (2 ^ 63 + y) ^^^ 2 ^ 63 = y := by
      have h1 : 2 ^ 63 + y = 2 ^ 63 ^^^ y := by
        have h2 : 2 ^ 63 ^^^ y = 2 ^ 63 ||| y := by
          apply Nat.eq_of_testBit_eq
          intro i
          rw [Nat.testBit_xor, Nat.testBit_or, Nat.testBit_two_pow]
          by_cases hi : 63 = i
          · subst hi; rw [Nat.testBit_lt_two_pow hy]; simp
          · simp [hi]
        rw [h2]
        exact (Nat.two_pow_add_eq_or_of_lt hy 1 ▸ by omega)
      rw [h1, Nat.xor_comm, ← Nat.xor_assoc, Nat.xor_self, Nat.zero_xor]
    rw [e2]
    unfold Ieee.Format.read at h ⊢
    rw [hsw] at h ⊢
    simp only [Nat.add_mod_left, Nat.mod_eq_of_lt hy] at h ⊢
    have d1 : ((2 ^ 63 + y) / 2 ^ 63 % 2 == 1) = true := by rw [Nat.add_div_left _ (by decide), Nat.div_eq_of_lt hy]; rfl
    have d2 : (y / 2 ^ 63 % 2 == 1) = false := by rw [Nat.div_eq_of_lt hy]; rfl
    rw [d1] at h; rw [d2]
    split at h
    · rename_i g; cases h; rw [if_pos g]; rfl
    · rename_i g
      split at h
      · rename_i g2; cases h; rw [if_neg g, if_pos g2]; rfl
      · split at h <;> cases h

theorem labs_num (x : Nat) (hx : x < 2 ^ 64) (h : Flo.Nm x) : Flo.Nm (labs x) ∧ Flo.W (labs x) = ra (Flo.W x) := by
  have o := Flo.order_num Ieee.double x 0 h zero_num.1
  rw [show Flo.V Ieee.double 0 = 0 from zero_num.2] at o
  unfold labs
  rw [show FloatKind.f64.format = Ieee.double from rfl]
  by_cases h1 : Ieee.double.order x 0 = some .lt
  · rw [if_pos h1]
    have hv := o.1.1 h1
    obtain ⟨s, m, p, hr⟩ := h
    have hn := neg_read x hx s m p hr
    refine ⟨⟨_, _, _, hn⟩, ?_⟩
    rw [show Flo.W (Op.negFloat .f64 x) = _ from Flo.V_eq hn, Flo.val_opp]
    unfold ra
    rw [if_pos hv, show Flo.W x = _ from Flo.V_eq hr]
  · rw [if_neg h1]
    have hv : ¬ Flo.V Ieee.double x < 0 := fun g => h1 (o.1.2 g)
    by_cases h2 : Ieee.double.order x 0 = some .eq
    · rw [if_pos h2]
      have hz := o.2.1.1 h2
      refine ⟨zero_num.1, ?_⟩
      rw [zero_num.2]; unfold ra; rw [if_neg hv]; exact hz.symm
    · rw [if_neg h2]
      exact ⟨h, by unfold ra; rw [if_neg hv]⟩

/-- the size, in double precision, of a finite number -/
def szd (x y : Nat) : Nat := (floatBits .add .f64 (labs x) (labs y)).getD 0
theorem szd_eq (x y : Nat) (hx : x < 2 ^ 64) (hy : y < 2 ^ 64) (fx : Flo.Nm x) (fy : Flo.Nm y) : floatBits .add .f64 (labs x) (labs y) = some (szd x y) := by
  obtain ⟨r, h, _⟩ := Flo.d_add_or (labs x) (labs y) (labs_num x hx fx).1 (labs_num y hy fy).1 _ ⟨by have := ra_nonneg (Flo.W x); have := ra_nonneg (Flo.W y); rw [(labs_num x hx fx).2, (labs_num y hy fy).2]; grind, Rat.le_refl⟩
  unfold szd; rw [h]; rfl
end Go.Proofs.YtiakcibeobbonaaGreat

/- The walks of the functions that draw: each returns something in its range, and turns nothing that was there before the cursor.
   Conditions: those that each statement names. -/
namespace Go.Proofs.YtiakcibeobbonaaGreat
set_option linter.unusedSimpArgs false
set_option linter.unusedVariables false
open Go Go.RowKit

/-- a slice of bytes, all of it below block B -/
def Bys (B : Nat) (a : Option Addr) (len : Nat) (w : World) : Prop :=
  len ≤ 140737488351232 ∧ (len = 0 ∨ ∃ blk off, a = some ⟨blk, off, none⟩ ∧ blk < B ∧ ∀ k, k < len → ∃ x : Nat, x ≤ 255 ∧ w.cell? ⟨blk, off + k, none⟩ = some (.int .u8 x))
theorem Bys.below {B : Nat} {a : Option Addr} {len : Nat} {w w' : World} (h : Bys B a len w) (hb : Below B w w') : Bys B a len w' := by
  obtain ⟨h0, h⟩ := h
  refine ⟨h0, ?_⟩
  rcases h with h | ⟨blk, off, h1, h2, h3⟩
  · exact .inl h
  · refine .inr ⟨blk, off, h1, h2, fun k hk => ?_⟩
    obtain ⟨x, hx, hc⟩ := h3 k hk
    exact ⟨x, hx, by rw [hb.cell (p := ⟨blk, off + k, none⟩) h2]; exact hc⟩
theorem Bys.mono {B B' : Nat} {a : Option Addr} {len : Nat} {w : World} (h : Bys B a len w) (hb : B ≤ B') : Bys B' a len w := by
  obtain ⟨h0, h⟩ := h
  refine ⟨h0, ?_⟩
  rcases h with h | ⟨blk, off, h1, h2, h3⟩
  · exact .inl h
  · exact .inr ⟨blk, off, h1, by omega, h3⟩

/-- a cursor over it, in block c -/
def Cur (B : Nat) (a : Option Addr) (len cap : Nat) (c : Nat) (w : World) : Prop :=
  B ≤ c ∧ c < w.heap.size ∧ Bys B a len w ∧ ∃ i : Nat, ∃ h : Int, i ≤ len ∧
    w.cell? ⟨c, 0, none⟩ = some (.slice a len cap) ∧ w.cell? ⟨c, 1, none⟩ = some (.int .i64 i) ∧ w.cell? ⟨c, 2, none⟩ = some (.int .i64 h) ∧
    w.frozen? ⟨c, 0, none⟩ = false ∧ w.frozen? ⟨c, 1, none⟩ = false ∧ w.frozen? ⟨c, 2, none⟩ = false

/-- of what was there, block c alone may have turned -/
def Kp (c : Nat) (w w' : World) : Prop := w.grownBy w' (some c)
theorem Kp.refl (c : Nat) (w : World) : Kp c w w := World.grownBy.refl w _
theorem Kp.trans {c : Nat} {a b d : World} (h : Kp c a b) (k : Kp c b d) : Kp c a d :=
  ⟨k.os.trans h.os, k.tape.trans h.tape, k.output.trans h.output, Nat.le_trans h.size k.size, fun i hi hne => (k.block i (Nat.lt_of_lt_of_le hi h.size) hne).trans (h.block i hi hne)⟩
theorem Kp.set {c : Nat} {a w : World} (h : Kp c a w) (o : Nat) (u : Value) : Kp c a (w.setCell ⟨c, o, none⟩ u) :=
  h.trans ⟨rfl, rfl, rfl, by simp [World.setCell], fun k _ hne => Below.heap_setCell _ _ _ _ (fun e => hne (by rw [e]))⟩
theorem Kp.draw {c : Nat} {a w : World} (h : Kp c a w) (n : Nat) : Kp c a (w.drewN n) :=
  h.trans ⟨rfl, rfl, rfl, Nat.le_refl _, fun _ _ _ => rfl⟩
theorem Kp.alloc {c : Nat} {a w : World} (h : Kp c a w) (o : Obj) : Kp c a (w.alloc o) := h.trans (World.grownBy_alloc w o _)
theorem Kp.below {B c : Nat} {w w' : World} (h : Kp c w w') (hB : B ≤ w.heap.size) (hc : B ≤ c) : Below B w w' :=
  ⟨h.os, h.tape, h.output, h.size, fun k hk => h.block k (by omega) (fun e => by cases e; omega)⟩
theorem Kp.cell {c : Nat} {w w' : World} (h : Kp c w w') {p : Addr} (hp : p.block < w.heap.size) (hne : p.block ≠ c) : w'.cell? p = w.cell? p :=
  World.cell?_of_block (w := w) (h.block p.block hp (fun e => hne (by cases e; rfl)))
theorem Kp.frozen {c : Nat} {w w' : World} (h : Kp c w w') {p : Addr} (hp : p.block < w.heap.size) (hne : p.block ≠ c) : w'.frozen? p = w.frozen? p :=
  World.frozen?_of_block (w := w) (h.block p.block hp (fun e => hne (by cases e; rfl)))

def BytePost (B : Nat) (a : Option Addr) (len cap c : Nat) (w : World) (e : Ending) (w' : World) : Prop :=
  ∃ x : Int, 0 ≤ x ∧ x ≤ 255 ∧ e = .returned (.int .i64 x) ∧ Cur B a len cap c w' ∧ Kp c w w'

theorem and255 (y : Int) : 0 ≤ bits .and .i64 y 255 ∧ bits .and .i64 y 255 ≤ 255 := by
  have h : (BitVec.ofInt 64 y &&& BitVec.ofInt 64 255).toNat ≤ 255 := by
    rw [BitVec.toNat_and, show (BitVec.ofInt 64 255).toNat = 255 from rfl]
    exact Nat.and_le_right
  have e : bits .and .i64 y 255 = IntKind.i64.wrap ((BitVec.ofInt 64 y &&& BitVec.ofInt 64 255).toNat : Int) := rfl
  rw [e, IntWalk.i64_in _ (by omega)]
  omega

theorem cell_set {w : World} {c o : Nat} {v u : Value} (h : w.cell? ⟨c, o, none⟩ = some u) : (w.setCell ⟨c, o, none⟩ v).cell? ⟨c, o, none⟩ = some v := by
  go_simp

theorem cur_hash {B : Nat} {a : Option Addr} {len cap c : Nat} {w : World} {i : Nat} {h : Int} (hB : B ≤ c) (hsz : c < w.heap.size) (hby : Bys B a len w) (hi1 : i ≤ len)
    (h0 : w.cell? ⟨c, 0, none⟩ = some (.slice a len cap)) (h1 : w.cell? ⟨c, 1, none⟩ = some (.int .i64 i)) (h2 : w.cell? ⟨c, 2, none⟩ = some (.int .i64 h))
    (f0 : w.frozen? ⟨c, 0, none⟩ = false) (f1 : w.frozen? ⟨c, 1, none⟩ = false) (f2 : w.frozen? ⟨c, 2, none⟩ = false) (h' : Int) (n : Nat) :
    Cur B a len cap c ((w.setCell ⟨c, 2, none⟩ (.int .i64 h')).drewN n) := by
  refine ⟨hB, by simpa using hsz, ?_, i, h', hi1, ?_, ?_, ?_, ?_, ?_, ?_⟩
  · exact (hby.below (below_drewN ((Below.refl B w).setCell hB _) n))
  all_goals go_simp

theorem cur_byte {B : Nat} {a : Option Addr} {len cap c : Nat} {w : World} {i : Nat} {h : Int} (hB : B ≤ c) (hsz : c < w.heap.size) (hby : Bys B a len w) (hi1 : i < len)
    (h0 : w.cell? ⟨c, 0, none⟩ = some (.slice a len cap)) (h1 : w.cell? ⟨c, 1, none⟩ = some (.int .i64 i)) (h2 : w.cell? ⟨c, 2, none⟩ = some (.int .i64 h))
    (f0 : w.frozen? ⟨c, 0, none⟩ = false) (f1 : w.frozen? ⟨c, 1, none⟩ = false) (f2 : w.frozen? ⟨c, 2, none⟩ = false) (h' : Int) (n : Nat) :
    Cur B a len cap c (((w.setCell ⟨c, 2, none⟩ (.int .i64 h')).drewN n).setCell ⟨c, 1, none⟩ (.int .i64 (i + 1))) := by
  refine ⟨hB, by simpa using hsz, ?_, i + 1, h', hi1, ?_, ?_, ?_, ?_, ?_, ?_⟩
  · exact (hby.below ((below_drewN ((Below.refl B w).setCell hB _) n).setCell hB _))
  all_goals go_simp

theorem l01Byte_any (B : Nat) (a : Option Addr) (len cap c : Nat) (w : World) (hc : Cur B a len cap c w) :
    Calls Tryz.prog 42 #[.pointer (some ⟨c, 0, none⟩)] w (BytePost B a len cap c w) := by
  obtain ⟨hB, hsz, hby, i, h, hi1, h0, h1, h2, f0, f1, f2⟩ := hc
  have Hby := Lib.hid hby
  have hlen := hby.1
  clear hby
  by_cases hlt : i < len
  · rcases Hby.out.2 with h00 | ⟨blk, off, ha, hblk, hcell⟩
    · omega
    obtain ⟨x, hx, hcx⟩ := hcell i hlt
    clear hcell
    subst ha
    have hne : blk ≠ c := by omega
    go_enter Tryz.func42, Tryz.ntmps42
    go_wp2
    go_quiet (fail)
    go_wp2
    go_quiet (fail)
    go_wp2
    go_quiet (fail)
    go_wp2
    go_ret
    exact ⟨_, (and255 _).1, (and255 _).2, rfl, cur_byte hB hsz Hby.out hlt h0 h1 h2 f0 f1 f2 _ _, (((Kp.refl c w).set _ _).draw _).set _ _⟩
  · go_enter Tryz.func42, Tryz.ntmps42
    go_wp2
    go_quiet (fail)
    go_wp2
    go_quiet (fail)
    go_wp2
    go_ret
    exact ⟨_, (and255 _).1, (and255 _).2, rfl, by rw [World.drewN_drewN]; exact cur_hash hB hsz Hby.out hi1 h0 h1 h2 f0 f1 f2 _ _, by rw [World.drewN_drewN]; exact ((Kp.refl c w).set _ _).draw _⟩

/-- the cursor stands in world w, and but for its block all is as it was in w0 -/
def At (B : Nat) (w0 : World) (a : Option Addr) (len cap c : Nat) (w : World) : Prop := Cur B a len cap c w ∧ Kp c w0 w
theorem At.below {B : Nat} {w0 : World} {a : Option Addr} {len cap c : Nat} {w : World} (h : At B w0 a len cap c w) (hB : B ≤ w0.heap.size) : Below B w0 w := h.2.below hB h.1.1
theorem At.here {B : Nat} {w0 : World} {a : Option Addr} {len cap c : Nat} {w : World} (h : At B w0 a len cap c w) : At B w a len cap c w := ⟨h.1, Kp.refl _ _⟩
theorem At.kp {B : Nat} {w0 : World} {a : Option Addr} {len cap c : Nat} {w : World} (h : At B w0 a len cap c w) : Kp c w0 w := h.2
theorem At.draw {B : Nat} {w0 : World} {a : Option Addr} {len cap c : Nat} {w : World} (h : At B w0 a len cap c w) (n : Nat) : At B w0 a len cap c (w.drewN n) :=
  ⟨⟨h.1.1, h.1.2.1, h.1.2.2.1.below (below_drewN (Below.refl _ _) n), h.1.2.2.2⟩, h.2.draw n⟩

def ByteP (B : Nat) (w0 : World) (a : Option Addr) (len cap c : Nat) (e : Ending) (w' : World) : Prop :=
  ∃ x : Int, 0 ≤ x ∧ x ≤ 255 ∧ e = .returned (.int .i64 x) ∧ At B w0 a len cap c w'
theorem byte_at (B : Nat) (w0 : World) (a : Option Addr) (len cap c : Nat) (w : World) (hc : At B w0 a len cap c w) :
    Calls Tryz.prog 42 #[.pointer (some ⟨c, 0, none⟩)] w (ByteP B w0 a len cap c) :=
  (l01Byte_any B a len cap c w hc.1).mono fun _ _ ⟨x, h0, h1, h2, h3, h4⟩ => ⟨x, h0, h1, h2, h3, hc.2.trans h4⟩

def BelowP (B : Nat) (w0 : World) (a : Option Addr) (len cap c : Nat) (m : Int) (e : Ending) (w' : World) : Prop :=
  ∃ x : Int, 0 ≤ x ∧ x < m ∧ e = .returned (.int .i64 x) ∧ At B w0 a len cap c w'
/-- a number from 0 on, below m -/
theorem below_at (B : Nat) (w0 : World) (a : Option Addr) (len cap c : Nat) (m : Int) (hm0 : 1 ≤ m) (hm1 : m ≤ 4294967296) (w : World) (hc : At B w0 a len cap c w) :
    Calls Tryz.prog 22 #[.pointer (some ⟨c, 0, none⟩), .int .i64 m] w (BelowP B w0 a len cap c m) := by
  by_cases h256 : m ≤ 256
  all_goals
    go_enter Tryz.func22, Tryz.ntmps22
    go_wp2_with (go_at_call 42; refine (byte_at _ _ _ _ _ _ _ (by assumption)).mono ?_; rintro e w1 ⟨x, x0, x1, rfl, hc1⟩)
    go_ret
    exact ⟨_, Int.emod_nonneg _ (by omega), Int.emod_lt_of_pos _ (by omega), rfl, by assumption⟩

def OnceP (B : Nat) (w0 : World) (a : Option Addr) (len cap c : Nat) (e : Ending) (w' : World) : Prop :=
  ∃ b : Bool, e = .returned (.bool b) ∧ At B w0 a len cap c w'
theorem once_at (B : Nat) (w0 : World) (a : Option Addr) (len cap c : Nat) (m : Int) (hm0 : 1 ≤ m) (hm1 : m ≤ 4294967296) (w : World) (hc : At B w0 a len cap c w) :
    Calls Tryz.prog 69 #[.pointer (some ⟨c, 0, none⟩), .int .i64 m] w (OnceP B w0 a len cap c) := by
  go_enter Tryz.func69, Tryz.ntmps69
  go_wp2_with (go_at_call 22; refine (below_at _ _ _ _ _ _ _ hm0 hm1 _ (by assumption)).mono ?_; rintro e w1 ⟨x, x0, x1, rfl, hc1⟩)
  go_ret
  exact ⟨_, rfl, by assumption⟩

def FloP (B : Nat) (w0 : World) (a : Option Addr) (len cap c : Nat) (e : Ending) (w' : World) : Prop :=
  ∃ b : Nat, e = .returned (.float .f64 b) ∧ b < 2 ^ 64 ∧ At B w0 a len cap c w'
theorem floatOfInt_lt (n : Int) : floatOfInt .f64 n < 2 ^ 64 := by
  unfold floatOfInt FloatKind.nearest FloatKind.encode; exact Ieee.Format.write_lt _ _
theorem l1Odd_at (B : Nat) (w0 : World) (a : Option Addr) (len cap c : Nat) (w : World) (hc : At B w0 a len cap c w) :
    Calls Tryz.prog 113 #[.pointer (some ⟨c, 0, none⟩)] w (FloP B w0 a len cap c) := by
  go_enter Tryz.func113, Tryz.ntmps113
  go_wp2_with (go_at_call 22; refine (below_at _ _ _ _ _ _ _ (by omega) (by omega) _ (by assumption)).mono ?_; rintro e w1 ⟨x, x0, x1, rfl, hc1⟩)
  all_goals
    go_ret
    first
      | exact ⟨_, rfl, by decide, by assumption⟩
      | exact ⟨_, rfl, fres_wf _ _ _ _ _, At.draw (by assumption) _⟩

theorem l1Some_at (B : Nat) (w0 : World) (a : Option Addr) (len cap c : Nat) (w : World) (hc : At B w0 a len cap c w) :
    Calls Tryz.prog 45 #[.pointer (some ⟨c, 0, none⟩)] w (FloP B w0 a len cap c) := by
  go_enter Tryz.func45, Tryz.ntmps45
  go_wp2_with (go_at_call 22; refine (below_at _ _ _ _ _ _ _ (by omega) (by omega) _ (by assumption)).mono ?_; rintro e w1 ⟨x, x0, x1, rfl, hc1⟩)
  all_goals
    go_ret
    first
      | exact ⟨_, rfl, floatOfInt_lt _, by assumption⟩
      | exact ⟨_, rfl, fres_wf _ _ _ _ _, At.draw (by assumption) _⟩

theorem l1Any_at (B : Nat) (w0 : World) (a : Option Addr) (len cap c : Nat) (w : World) (hc : At B w0 a len cap c w) :
    Calls Tryz.prog 100 #[.pointer (some ⟨c, 0, none⟩)] w (FloP B w0 a len cap c) := by
  go_enter Tryz.func100, Tryz.ntmps100
  go_upto_if 13 with (first
    | (go_at_call 69; refine (once_at _ _ _ _ _ _ _ (by omega) (by omega) _ (by assumption)).mono ?_; rintro e w1 ⟨b, rfl, hc1⟩)
    | (go_at_call 113; refine (l1Odd_at _ _ _ _ _ _ _ (by assumption)).mono ?_; rintro e w1 ⟨x, rfl, x0, hc1⟩)
    | (go_at_call 45; refine (l1Some_at _ _ _ _ _ _ _ (by assumption)).mono ?_; rintro e w1 ⟨x, rfl, x0, hc1⟩)
    | (go_at_call 22; refine (below_at _ _ _ _ _ _ _ (by omega) (by omega) _ (by assumption)).mono ?_; rintro e w1 ⟨x, x0, x1, rfl, hc1⟩))
  · go_ret; exact ⟨_, rfl, by assumption, by assumption⟩
  · go_cut [3] (fun v wx => ∃ b : Nat, v = .float .f64 b ∧ b < 2 ^ 64 ∧ At B w0 a len cap c wx)
    case first =>
      go_wp2_with (first
    | (go_at_call 69; refine (once_at _ _ _ _ _ _ _ (by omega) (by omega) _ (by assumption)).mono ?_; rintro e w1 ⟨b, rfl, hc1⟩)
    | (go_at_call 113; refine (l1Odd_at _ _ _ _ _ _ _ (by assumption)).mono ?_; rintro e w1 ⟨x, rfl, x0, hc1⟩)
    | (go_at_call 45; refine (l1Some_at _ _ _ _ _ _ _ (by assumption)).mono ?_; rintro e w1 ⟨x, rfl, x0, hc1⟩)
    | (go_at_call 22; refine (below_at _ _ _ _ _ _ _ (by omega) (by omega) _ (by assumption)).mono ?_; rintro e w1 ⟨x, x0, x1, rfl, hc1⟩))
      · go_loopw [3, 4] (fun v i wr => ∃ b k : Nat, v = .float .f64 b ∧ b < 2 ^ 64 ∧ k ≤ 250 ∧ i = .int .i64 (k : Int) ∧ At B w0 a len cap c wr) (fun _ i _ => (intOf i).toNat)
        case atStart => exact ⟨_, x.toNat, rfl, by assumption, by omega, by rw [Int.toNat_of_nonneg x0], by assumption⟩
        case round =>
          obtain ⟨b, k, rfl, hb, hk, rfl, hat⟩ := hrel
          by_cases hk0 : 0 < k
          · go_wp2
            go_roundw
            case rel => exact ⟨_, k - 1, rfl, fres_wf _ _ _ _ _, by omega, by rw [show ((k - 1 : Nat) : Int) = (k : Int) - 1 from by omega], At.draw hat _⟩
            case measure => simp only [intOf]; omega
          · go_wp2
            go_meet
            exact ⟨_, rfl, hb, hat⟩
      · go_meet
        exact ⟨_, rfl, by assumption, by assumption⟩
    case rest =>
      obtain ⟨b0, rfl, hb0, hat0⟩ := hcut
      clear hc
      go_wp2_with (first
    | (go_at_call 69; refine (once_at _ _ _ _ _ _ _ (by omega) (by omega) _ (by assumption)).mono ?_; rintro e w1 ⟨b, rfl, hc1⟩)
    | (go_at_call 113; refine (l1Odd_at _ _ _ _ _ _ _ (by assumption)).mono ?_; rintro e w1 ⟨x, rfl, x0, hc1⟩)
    | (go_at_call 45; refine (l1Some_at _ _ _ _ _ _ _ (by assumption)).mono ?_; rintro e w1 ⟨x, rfl, x0, hc1⟩)
    | (go_at_call 22; refine (below_at _ _ _ _ _ _ _ (by omega) (by omega) _ (by assumption)).mono ?_; rintro e w1 ⟨x, x0, x1, rfl, hc1⟩))
      · go_loopw [3, 5] (fun v i wr => ∃ b k : Nat, v = .float .f64 b ∧ b < 2 ^ 64 ∧ k ≤ 250 ∧ i = .int .i64 (k : Int) ∧ At B w0 a len cap c wr) (fun _ i _ => (intOf i).toNat)
        case atStart => exact ⟨_, x.toNat, rfl, by assumption, by omega, by rw [Int.toNat_of_nonneg x0], by assumption⟩
        case round =>
          obtain ⟨b, k, rfl, hb, hk, rfl, hat⟩ := hrel
          by_cases hk0 : 0 < k
          · go_wp2
            go_roundw
            case rel => exact ⟨_, k - 1, rfl, fres_wf _ _ _ _ _, by omega, by rw [show ((k - 1 : Nat) : Int) = (k : Int) - 1 from by omega], At.draw hat _⟩
            case measure => simp only [intOf]; omega
          · go_wp2
            go_ret
            exact ⟨_, rfl, hb, hat⟩
      · go_ret
        exact ⟨_, rfl, by assumption, by assumption⟩

def CxP (B : Nat) (w0 : World) (a : Option Addr) (len cap c : Nat) (e : Ending) (w' : World) : Prop :=
  ∃ x y : Nat, e = .returned (.complex .f64 x y) ∧ x < 2 ^ 64 ∧ y < 2 ^ 64 ∧ At B w0 a len cap c w'

end Go.Proofs.YtiakcibeobbonaaGreat

/- The walks of what makes a cursor, of the law's own 'fresh', and of the makers of numbers.
   Conditions: those that each statement names. -/
namespace Go.Proofs.YtiakcibeobbonaaGreat
set_option linter.unusedSimpArgs false
set_option linter.unusedVariables false
open Go Go.RowKit

def NewP (a : Option Addr) (len cap : Nat) (w : World) (e : Ending) (w' : World) : Prop :=
  e = .returned (.pointer (some ⟨w.heap.size, 0, none⟩)) ∧ At w.heap.size w a len cap w.heap.size w'

theorem at_new0 {a : Option Addr} {len cap : Nat} {w : World} (hb : Bys w.heap.size a len w) (h : Int) (T : TypeId) :
    At w.heap.size w a len cap w.heap.size (w.alloc (.cells #[.slice a len cap, .int .i64 0, .int .i64 h] T (0, 0))) := by
  have hB : Below w.heap.size w (w.alloc (.cells #[.slice a len cap, .int .i64 0, .int .i64 h] T (0, 0))) := (Below.refl _ _).alloc (Nat.le_refl _) _
  refine ⟨⟨Nat.le_refl _, by simp, hb.below hB, 0, h, by omega, ?_, ?_, ?_, ?_, ?_, ?_⟩, (Kp.refl _ _).alloc _⟩
  all_goals go_simp

set_option maxRecDepth 100000 in
theorem l01New_any (a : Option Addr) (len cap : Nat) (w : World) (hb : Bys w.heap.size a len w) :
    Calls Tryz.prog 12 #[.slice a len cap] w (NewP a len cap w) := by
  have hlen := hb.1
  have Hb := Lib.hid hb
  clear hb
  go_enter Tryz.func12, Tryz.ntmps12
  go_wp2
  go_loopw [3, 4] (fun h i wr => ∃ k : Nat, ∃ z : Int, k ≤ len ∧ i = .int .i64 (k : Int) ∧ h = .int .i64 z ∧ wr = w) (fun _ i _ => len - (intOf i).toNat)
  case atStart => exact ⟨0, _, by omega, rfl, rfl, rfl⟩
  case round =>
    obtain ⟨k, z, hk, rfl, rfl, rfl⟩ := hrel
    by_cases hlt : k < len
    · by_cases h4 : k < 4000
      · rcases Hb.out.2 with h00 | ⟨blk, off, ha, hblk, hcell⟩
        · omega
        obtain ⟨x, hx, hcx⟩ := hcell k hlt
        clear hcell
        subst ha
        go_wp2
        go_roundw
        case rel => exact ⟨k + 1, _, by omega, by rw [show ((k + 1 : Nat) : Int) = (k : Int) + 1 from by omega], rfl, trivial⟩
        case measure => simp only [intOf]; omega
      · go_wp2
        go_ret
        exact ⟨rfl, at_new0 Hb.out _ _⟩
    · go_wp2
      go_ret
      exact ⟨rfl, at_new0 Hb.out _ _⟩

/-- 'fresh' makes bytes of its own -/
def FreshP (w : World) (e : Ending) (w' : World) : Prop :=
  ∃ g len cap, e = .returned (.slice (some ⟨g, 0, none⟩) len cap) ∧ w.heap.size ≤ g ∧ g < w'.heap.size ∧ Bys w'.heap.size (some ⟨g, 0, none⟩) len w' ∧ Below w.heap.size w w'

theorem fresh_done {w wr : World} {v : Value} {k : Nat} {xs : List Value} {T : TypeId} (hk : k ≤ 600) (hown : wr.ownsRow w.heap.size T 1 v (k + 1) xs) (hxs : ∀ u ∈ xs, ∃ x : Nat, x ≤ 255 ∧ u = .int .u8 (x : Int)) (hb : Below w.heap.size w wr) :
    FreshP w (.returned v) wr := by
  have hlen := hown.1
  have hlt := hown.lt
  rcases hown.2 with ⟨_, h0⟩ | ⟨g, cap, cur, rfl, hg, hcur, h1, h2, h3, h4⟩
  · omega
  · have hg2 := hlt g rfl
    refine ⟨g, k + 1, cap, rfl, hg, hg2.2, ⟨by omega, .inr ⟨g, 0, rfl, hg2.2, fun j hj => ?_⟩⟩, hb⟩
    have hj' : j < xs.length := by omega
    obtain ⟨x, hx, he⟩ := hxs xs[j] (List.getElem_mem hj')
    refine ⟨x, hx, ?_⟩
    have := hown.cells (g := g) rfl j (xs[j]) (List.getElem?_eq_getElem hj')
    rw [Nat.zero_add, ← he]
    by_cases h0 : j = 0
    · subst h0; simpa [Addr.add] using this
    · simpa [Addr.add, h0] using this

theorem info_u8 : (Tryz.prog.info? 5).map (fun i => (i.zero, i.size, i.bytes)) = some (some (.int .u8 0), 1, 1) := by kernel_rfl

/-- a complex number of double precision; nothing that was there has turned -/
def MadeP (w : World) (e : Ending) (w' : World) : Prop :=
  ∃ x y : Nat, e = .returned (.complex .f64 x y) ∧ x < 2 ^ 64 ∧ y < 2 ^ 64 ∧ Below w.heap.size w w'


/-- a number of moderate size -/
def Moderate (x y : Nat) : Prop := x < 2 ^ 64 ∧ y < 2 ^ 64 ∧ fin .f64 x = true ∧ fin .f64 y = true ∧
  Flo.pw (-201) ≤ Flo.W (labs x) + Flo.W (labs y) ∧ Flo.W (labs x) + Flo.W (labs y) ≤ Flo.pw 201 ∧ Flo.Nm (labs x) ∧ Flo.Nm (labs y)
def ModP (w : World) (e : Ending) (w' : World) : Prop :=
  ∃ x y : Nat, e = .returned (.complex .f64 x y) ∧ Moderate x y ∧ Below w.heap.size w w'

theorem Nm_of_fin {x : Nat} (h : fin .f64 x = true) : Flo.Nm x := (fin_iff .f64 x).1 h

theorem moderate_const : Moderate 4604930618986332160 13837309855095848960 := by
  have h1 : Ieee.double.read 4604930618986332160 = .number false 6755399441055744 (-53) := by decide
  have h2 : Ieee.double.read 13837309855095848960 = .number true 6755399441055744 (-51) := by decide
  have l1 := labs_num _ (by decide) ⟨_, _, _, h1⟩
  have l2 := labs_num _ (by decide) ⟨_, _, _, h2⟩
  have v1 : Flo.W 4604930618986332160 = 3 / 4 := by
    rw [show Flo.W 4604930618986332160 = _ from Flo.V_eq h1]
    unfold Flo.val
    have := Flo.pw_neg_mul 53
    have e : Flo.pw 53 = 9007199254740992 := Flo.pw_nat 53
    rw [e] at this
    simp only [Bool.false_eq_true, if_false]
    have e2 : ((6755399441055744 : Nat) : Rat) = 6755399441055744 := rfl
    rw [e2]; grind
  have v2 : Flo.W 13837309855095848960 = -3 := by
    rw [show Flo.W 13837309855095848960 = _ from Flo.V_eq h2]
    unfold Flo.val
    have := Flo.pw_neg_mul 51
    have e : Flo.pw 51 = 2251799813685248 := Flo.pw_nat 51
    rw [e] at this
    simp only [if_true]
    have e2 : ((6755399441055744 : Nat) : Rat) = 6755399441055744 := rfl
    rw [e2]; grind
  have a1 : Flo.pw (-201) ≤ 1 := by rw [← Flo.pw_zero]; exact Flo.pw_le (by omega)
  have a2 : Flo.pw 2 ≤ Flo.pw 201 := Flo.pw_le (by omega)
  have a3 : Flo.pw 2 = 4 := Flo.pw_nat 2
  refine ⟨by decide, by decide, by decide, by decide, ?_, ?_, l1.1, l2.1⟩
  · rw [l1.2, l2.2, v1, v2]
    have : ra (3 / 4) = 3 / 4 := by unfold ra; rw [if_neg (by grind)]
    have : ra (-3) = 3 := by unfold ra; rw [if_pos (by grind)]; grind
    grind
  · rw [l1.2, l2.2, v1, v2]
    have : ra (3 / 4) = 3 / 4 := by unfold ra; rw [if_neg (by grind)]
    have : ra (-3) = 3 := by unfold ra; rw [if_pos (by grind)]; grind
    grind

theorem moderate_of (x y : Nat) (hx : x < 2 ^ 64) (hy : y < 2 ^ 64) (fx : fin .f64 x = true) (fy : fin .f64 y = true)
    (h1 : (FloatKind.f64.format.order (szd x y) 3706462493325918208 == some .lt) = false) (h2 : (FloatKind.f64.format.order (szd x y) 5507902344274116608 == some .gt) = false) : Moderate x y := by
  have nx := Nm_of_fin fx
  have ny := Nm_of_fin fy
  have lx := labs_num x hx nx
  have ly := labs_num y hy ny
  have c1 : Ieee.double.read 3706462493325918208 = .number false 4503599627370496 (-252) := by decide
  have c2 : Ieee.double.read 5507902344274116608 = .number false 4503599627370496 148 := by decide
  have e52 : ((4503599627370496 : Nat) : Rat) = Flo.pw 52 := (Flo.pw_nat 52).symm
  have v1 : Flo.V Ieee.double 3706462493325918208 = Flo.pw (-200) := by
    rw [Flo.V_eq c1]; unfold Flo.val; rw [e52, ← Flo.pw_add]; simp only [Bool.false_eq_true, if_false]; rw [show (52 + -252 : Int) = -200 from rfl]; grind
  have v2 : Flo.V Ieee.double 5507902344274116608 = Flo.pw 200 := by
    rw [Flo.V_eq c2]; unfold Flo.val; rw [e52, ← Flo.pw_add]; simp only [Bool.false_eq_true, if_false]; rw [show (52 + 148 : Int) = 200 from rfl]; grind
  have p0 := ra_nonneg (Flo.W x)
  have q0 := ra_nonneg (Flo.W y)
  obtain ⟨r, hr, hor⟩ := Flo.d_add_or (labs x) (labs y) lx.1 ly.1 (Flo.W (labs x) + Flo.W (labs y)) ⟨by rw [lx.2, ly.2]; grind, Rat.le_refl⟩
  have hrs : szd x y = r := by unfold szd; rw [hr]; rfl
  rw [hrs, show FloatKind.f64.format = Ieee.double from rfl] at h1 h2
  rcases hor with ⟨s, hi⟩ | ⟨nr, near⟩
  · exfalso
    unfold Ieee.Format.order at h1 h2
    rw [hi, c1] at h1
    rw [hi, c2] at h2
    cases s <;> simp [Ieee.Datum.order] at h1 h2
  · have o1 := (Flo.order_num Ieee.double r _ nr ⟨_, _, _, c1⟩).1
    have o2 := (Flo.order_num Ieee.double r _ nr ⟨_, _, _, c2⟩).2.2
    rw [v1] at o1
    rw [v2] at o2
    have g1 : ¬ Flo.V Ieee.double r < Flo.pw (-200) := fun g => by rw [o1.2 g] at h1; exact absurd h1 (by decide)
    have g2 : ¬ Flo.pw 200 < Flo.V Ieee.double r := fun g => by rw [o2.2 g] at h2; exact absurd h2 (by decide)
    have k1 : Flo.pw (-200) = 2 * Flo.pw (-201) := by rw [← Flo.pw_succ]; rfl
    have k2 : Flo.pw 201 = 2 * Flo.pw 200 := by rw [← Flo.pw_succ]; rfl
    have k3 : Flo.et ≤ Flo.pw (-210) := Flo.pw_le (by omega)
    have k4 : Flo.pw (-201) = 512 * Flo.pw (-210) := by
      rw [show (-201 : Int) = 9 + -210 from rfl, Flo.pw_add, show Flo.pw 9 = 512 from Flo.pw_nat 9]
    have k5 := Flo.u_le
    have k6 := Flo.u_pos
    have k7 : Flo.pw (-210) ≤ Flo.pw 200 := Flo.pw_le (by omega)
    have k8 := Flo.pw_pos (-210)
    refine ⟨hx, hy, fx, fy, ?_, ?_, lx.1, ly.1⟩
    · have hS : 0 ≤ Flo.W (labs x) + Flo.W (labs y) := by rw [lx.2, ly.2]; grind
      generalize Flo.W (labs x) + Flo.W (labs y) = S at *
      have := Rat.mul_le_mul_of_nonneg_left k5 hS
      unfold Flo.Ab Flo.W at near
      grind
    · have hS : 0 ≤ Flo.W (labs x) + Flo.W (labs y) := by rw [lx.2, ly.2]; grind
      generalize Flo.W (labs x) + Flo.W (labs y) = S at *
      have := Rat.mul_le_mul_of_nonneg_left k5 hS
      unfold Flo.Ab Flo.W at near
      grind


end Go.Proofs.YtiakcibeobbonaaGreat

/- Plain facts on numbers of single precision: widening is exact, narrowing is near; and on what the tests of modes say. No program stands in it.
   Conditions: those that each statement names. -/
namespace Go.Proofs.YtiakcibeobbonaaGreat
set_option linter.unusedSimpArgs false
set_option linter.unusedVariables false
open Go

/-! ### draws stand outermost -/
@[go_sem] theorem alloc_drewN (w : World) (n : Nat) (o : Obj) : (w.drewN n).alloc o = (w.alloc o).drewN n := rfl
@[go_sem] theorem setCell_drewN (w : World) (n : Nat) (a : Addr) (v : Value) : (w.drewN n).setCell a v = (w.setCell a v).drewN n := rfl

@[go_sem] theorem drewN_none (w : World) : w.drewN 0 = w := rfl

/-! ### stores of floats and complex numbers -/
@[go_sem] theorem run_store_float {P : Program} (w : World) (a : Addr) (m : Mode) (k : FloatKind) (b : Nat) : (store a (.float k b) m).run P w = stored P w a (.float k b) m := run_store P w a _ m rfl
@[go_sem] theorem run_store_complex {P : Program} (w : World) (a : Addr) (m : Mode) (k : FloatKind) (x y : Nat) : (store a (.complex k x y) m).run P w = stored P w a (.complex k x y) m := run_store P w a _ m rfl

/-! ### quotients by a number other than 0 draw nothing -/
theorem int_nn (k : FloatKind) (n : Int) : (k.decode (floatOfInt k n)).isNaN = false := write_not_nan k.format (.number (n < 0) n.natAbs 0) rfl
theorem quo_calm {k : FloatKind} {x y : Nat} {s : Bool} {m : Nat} {p : Int} (hx : (k.decode x).isNaN = false) (hy : k.decode y = .number s m p) (hm : m ≠ 0) : fdr .quo k x y = 0 := by
  unfold fdr floatBits Ieee.Format.div
  unfold FloatKind.decode at hx hy
  rw [hy]
  cases h : k.format.read x <;> rw [h] at hx <;> simp [Ieee.Datum.isNaN, Ieee.Datum.quotient, hm] at hx ⊢

theorem fres_calm {op : BinOp} {k : FloatKind} {x y : Nat} (h : fdr op k x y = 0) (w : World) : fres w op k x y = (floatBits op k x y).getD 0 := by
  unfold fdr at h; unfold fres
  cases hb : floatBits op k x y with
  | some r => rfl
  | none => rw [hb] at h; simp at h

/-! ### worlds that have only grown -/
/-- nothing that was there has turned -/
def Nw (w w' : World) : Prop := w.grownBy w' none
theorem Nw.refl (w : World) : Nw w w := World.grownBy.refl w _
theorem Nw.trans {a b d : World} (h : Nw a b) (k : Nw b d) : Nw a d :=
  ⟨k.os.trans h.os, k.tape.trans h.tape, k.output.trans h.output, Nat.le_trans h.size k.size, fun i hi hne => (k.block i (Nat.lt_of_lt_of_le hi h.size) hne).trans (h.block i hi hne)⟩
theorem Nw.draw {a w : World} (h : Nw a w) (n : Nat) : Nw a (w.drewN n) := h.trans ⟨rfl, rfl, rfl, Nat.le_refl _, fun _ _ _ => rfl⟩
theorem Nw.alloc {a w : World} (h : Nw a w) (o : Obj) : Nw a (w.alloc o) := h.trans (World.grownBy_alloc w o _)
theorem Nw.set {a w : World} (h : Nw a w) {p : Addr} (hp : a.heap.size ≤ p.block) (u : Value) : Nw a (w.setCell p u) :=
  ⟨h.os, h.tape, h.output, by simpa [World.setCell] using h.size, fun k hk hne => by rw [← h.block k hk hne]; simp only [World.setCell, Array.getElem?_modify]; rw [if_neg (by omega)]⟩
theorem Nw.cell {w w' : World} (h : Nw w w') {p : Addr} (hp : p.block < w.heap.size) : w'.cell? p = w.cell? p :=
  World.cell?_of_block (w := w) (h.block p.block hp (by simp))
theorem Nw.frozen {w w' : World} (h : Nw w w') {p : Addr} (hp : p.block < w.heap.size) : w'.frozen? p = w.frozen? p :=
  World.frozen?_of_block (w := w) (h.block p.block hp (by simp))

/-! ### widening -/
def wid (b : Nat) : Nat := FloatKind.f64.encode (FloatKind.f32.decode b)
theorem wid_lt (b : Nat) : wid b < 2 ^ 64 := Ieee.Format.write_lt _ _
abbrev Sm (b : Nat) : Prop := Flo.IsNum Ieee.single b
abbrev S (b : Nat) : Rat := Flo.V Ieee.single b

theorem fin_iff' (k : FloatKind) (x : Nat) : fin k x = true ↔ Flo.IsNum k.format x := by
  unfold fin Flo.IsNum FloatKind.decode
  cases k.format.read x <;> simp

theorem Sm_of {b : Nat} (h : fin .f32 b = true) : Sm b := (fin_iff' .f32 b).1 h
theorem single_bound {b : Nat} {s : Bool} {m : Nat} {p : Int} (h : Ieee.single.read b = .number s m p) : m < 16777216 ∧ -149 ≤ p ∧ p ≤ 104 := by
  obtain ⟨h1, h2, h3⟩ := Flo.read_bound Ieee.single (by decide) b s m p h
  have e1 : Ieee.single.leastPlace = -149 := by decide
  have e2 : (2 ^ Ieee.single.exponentBits : Nat) = 256 := by decide
  have e3 : 2 ^ (Ieee.single.fractionBits + 1) = 16777216 := by decide
  rw [e1] at h2 h3
  omega

theorem wid_read {b : Nat} {s : Bool} {m : Nat} {p : Int} (h : Ieee.single.read b = .number s m p) :
    ∃ m' p', Ieee.double.read (wid b) = .number s m' p' ∧ (m' : Rat) * Flo.pw p' = (m : Rat) * Flo.pw p := by
  obtain ⟨h1, h2, h3⟩ := single_bound h
  have hb : (m : Rat) * Flo.pw p < Flo.pw (Flo.top Ieee.double) := by
    rw [Flo.top_double]
    by_cases hm : m = 0
    · subst hm; have := Flo.pw_pos 1023; simp; grind
    · have a1 := (Flo.size_pw m p hm).2
      have a2 : m.log2 < 24 := (Nat.log2_lt hm).2 h1
      have a3 := Flo.pw_le (show p + (m.log2 : Int) + 1 ≤ 1023 by omega)
      grind
  obtain ⟨m', p', w1, -, -, w4⟩ := Flo.write_exact Ieee.double (by decide) s m p m p rfl (Nat.lt_trans h1 (by decide)) (by rw [Flo.lp_double]; omega) hb
  refine ⟨m', p', ?_, w4⟩
  unfold wid FloatKind.encode FloatKind.decode
  rw [show FloatKind.f32.format = Ieee.single from rfl, h]
  exact w1

theorem wid_num {b : Nat} (h : Sm b) : Flo.Nm (wid b) ∧ Flo.W (wid b) = S b := by
  obtain ⟨s, m, p, h⟩ := h
  obtain ⟨m', p', h1, h2⟩ := wid_read h
  refine ⟨⟨_, _, _, h1⟩, ?_⟩
  rw [show Flo.W (wid b) = _ from Flo.V_eq h1, show S b = _ from Flo.V_eq h]
  unfold Flo.val; rw [h2]

theorem fcv_up {b : Nat} (h : Sm b) (w : World) : fcv w .f32 b .f64 = wid b := by
  obtain ⟨s, m, p, h⟩ := h
  obtain ⟨m', p', h1, h2⟩ := wid_read h
  have hd : FloatKind.f32.decode b = .number s m p := h
  unfold fcv
  rw [if_neg (by decide), hd]
  have hw : wid b = FloatKind.f64.encode (.number s m p) := by unfold wid; rw [hd]
  rw [hw] at h1
  simp only
  rw [show FloatKind.f64.decode (FloatKind.f64.encode (.number s m p)) = _ from h1]
  simp [Ieee.Datum.isInfinity, hw]
theorem fcd_up {b : Nat} (h : Sm b) : fcd .f32 b .f64 = 0 := by
  obtain ⟨s, m, p, h⟩ := h
  obtain ⟨m', p', h1, h2⟩ := wid_read h
  have hd : FloatKind.f32.decode b = .number s m p := h
  unfold fcd
  rw [if_neg (by decide), hd]
  have hw : wid b = FloatKind.f64.encode (.number s m p) := by unfold wid; rw [hd]
  rw [hw] at h1
  simp only
  rw [show FloatKind.f64.decode (FloatKind.f64.encode (.number s m p)) = _ from h1]
  simp [Ieee.Datum.isInfinity]

theorem nan_fin {k : FloatKind} {b : Nat} (h : (k.decode b).isNaN = true) : fin k b = false := by
  unfold fin
  cases hd : k.decode b <;> rw [hd] at h <;> simp [Ieee.Datum.isNaN] at h ⊢

theorem fin_up (b : Nat) (w : World) : fin .f64 (fcv w .f32 b .f64) = fin .f32 b := by
  cases hd : FloatKind.f32.decode b with
  | number s m p =>
    have hs : Sm b := ⟨s, m, p, hd⟩
    rw [fcv_up hs]
    rw [(fin_iff' .f64 _).2 (wid_num hs).1, (fin_iff' .f32 _).2 hs]
  | infinity s =>
    have e : fin .f32 b = false := by unfold fin; rw [hd]
    rw [e]
    unfold fcv
    rw [if_neg (by decide), hd]
    simp only
    unfold fin
    have : FloatKind.f64.decode (FloatKind.f64.encode (.infinity s)) = .infinity s := by
      have e1 : ∀ k : FloatKind, k.decode (k.encode (.infinity s)) = k.format.read (k.format.word s k.format.infRung) := fun _ => rfl
      rw [e1, Flo.read_word_inf, if_neg (by decide)]
    rw [this]
  | nan s f =>
    have e : fin .f32 b = false := by unfold fin; rw [hd]
    rw [e]
    unfold fcv
    rw [if_neg (by decide), hd]
    exact nan_fin (nan_conv _ _ _)

/-! ### what the tests of a mode say -/
def leB (a b : Nat) : Bool := FloatKind.f64.format.order a b == some .lt || FloatKind.f64.format.order a b == some .eq
theorem leB_iff {a b : Nat} (ha : Flo.Nm a) (hb : Flo.Nm b) : leB a b = true ↔ Flo.W a ≤ Flo.W b := by
  have o := Flo.order_num Ieee.double a b ha hb
  unfold leB
  rw [show FloatKind.f64.format = Ieee.double from rfl, Bool.or_eq_true, beq_iff_eq, beq_iff_eq, o.1, o.2.1]
  show Flo.W a < Flo.W b ∨ Flo.W a = Flo.W b ↔ _
  constructor
  · intro h; rcases h with h | h <;> grind
  · intro h; grind

/-- the sum of the products of two parts with themselves -/
def sqr (x y : Nat) : Nat := (floatBits .add .f64 ((floatBits .mul .f64 x x).getD 0) ((floatBits .mul .f64 y y).getD 0)).getD 0
/-- a product of two finite numbers is valid: never NaN -/
theorem mul_some {x y : Nat} (hx : Flo.Nm x) (hy : Flo.Nm y) : ∃ r, floatBits .mul .f64 x y = some r := by
  obtain ⟨s, m, i, hx⟩ := hx
  obtain ⟨t, n, j, hy⟩ := hy
  show ∃ r, Ieee.double.mul x y = some r
  unfold Ieee.Format.mul
  rw [hx, hy]; exact ⟨_, rfl⟩

theorem single_abs {b : Nat} (h : Sm b) : Flo.Ab (S b) (Flo.pw 128) := by
  obtain ⟨s, m, p, h⟩ := h
  obtain ⟨h1, h2, h3⟩ := single_bound h
  rw [show S b = _ from Flo.V_eq h]
  have hp := Flo.pw_pos 128
  have hb : (m : Rat) * Flo.pw p ≤ Flo.pw 128 := by
    by_cases hm : m = 0
    · subst hm; simp; grind
    · have a1 := (Flo.size_pw m p hm).2
      have a2 : m.log2 < 24 := (Nat.log2_lt hm).2 h1
      have a3 := Flo.pw_le (show p + (m.log2 : Int) + 1 ≤ 128 by omega)
      grind
  have h0 : 0 ≤ (m : Rat) * Flo.pw p := by
    have a1 : (0 : Rat) ≤ m := by exact_mod_cast Nat.zero_le m
    exact Rat.mul_nonneg a1 (Rat.le_of_lt (Flo.pw_pos p))
  unfold Flo.val Flo.Ab; cases s <;> simp <;> grind

/-- the squares' sum of widened parts: near the exact one -/
theorem sqr_num {x y : Nat} (hx : Sm x) (hy : Sm y) :
    ∃ a b, floatBits .mul .f64 (wid x) (wid x) = some a ∧ floatBits .mul .f64 (wid y) (wid y) = some b ∧ floatBits .add .f64 a b = some (sqr (wid x) (wid y)) ∧ Flo.Nm (sqr (wid x) (wid y)) ∧
      Flo.Ab (Flo.W (sqr (wid x) (wid y)) - (S x * S x + S y * S y)) ((S x * S x + S y * S y) * (4 * Flo.u) + 6 * Flo.et) := by
  obtain ⟨nx, vx⟩ := wid_num hx
  obtain ⟨ny, vy⟩ := wid_num hy
  have ax := single_abs hx
  have ay := single_abs hy
  have qx := ax.mul ax
  have qy := ay.mul ay
  rw [← Flo.pw_add] at qx qy
  have sq : ∀ q : Rat, 0 ≤ q * q := fun q => by
    rcases Rat.le_total (a := 0) (b := q) with h | h
    · exact Rat.mul_nonneg h h
    · have := Rat.mul_nonneg (show 0 ≤ -q by grind) (show 0 ≤ -q by grind); grind
  have sx := sq (S x)
  have sy := sq (S y)
  have e258 : Flo.pw 258 = 4 * Flo.pw (128 + 128) := by rw [show (258 : Int) = 2 + (128 + 128) from rfl, Flo.pw_add, show Flo.pw 2 = 4 from Flo.pw_nat 2]
  have l1 : Flo.pw 258 < Flo.pw 1023 := Flo.pw_lt (by omega)
  obtain ⟨a, a1, a2, a3⟩ := Flo.d_mul (wid x) (wid x) nx nx (S x * S x) (by rw [vx]; exact ⟨by grind, by grind⟩) (by unfold Flo.Ab at qx; have := Flo.pw_pos (128 + 128); grind)
  obtain ⟨b, b1, b2, b3⟩ := Flo.d_mul (wid y) (wid y) ny ny (S y * S y) (by rw [vy]; exact ⟨by grind, by grind⟩) (by unfold Flo.Ab at qy; have := Flo.pw_pos (128 + 128); grind)
  rw [vx] at a3
  rw [vy] at b3
  have u1 := Flo.u_le
  have u0 := Flo.u_pos
  have e0 := Flo.et_pos
  have eu : Flo.et ≤ 1 / 1048576 := by
    have : Flo.et ≤ Flo.u := Flo.pw_le (by omega)
    grind
  have hux := Rat.mul_le_mul_of_nonneg_left u1 sx
  have huy := Rat.mul_le_mul_of_nonneg_left u1 sy
  have hux0 := Rat.mul_nonneg sx (Rat.le_of_lt u0)
  have huy0 := Rat.mul_nonneg sy (Rat.le_of_lt u0)
  have one_le : 1 ≤ Flo.pw (128 + 128) := by rw [← Flo.pw_zero]; exact Flo.pw_le (by omega)
  have hs : Flo.Ab (Flo.W a + Flo.W b) ((S x * S x + S y * S y) * (1 + Flo.u) + 2 * Flo.et) := by
    unfold Flo.Ab at *; constructor <;> grind
  obtain ⟨c, c1, c2, c3⟩ := Flo.d_add a b a2 b2 _ hs (by unfold Flo.Ab at qx qy; grind)
  have hc : sqr (wid x) (wid y) = c := by unfold sqr; rw [a1, b1]; simp [c1]
  refine ⟨a, b, a1, b1, by rw [hc]; exact c1, by rw [hc]; exact c2, ?_⟩
  rw [hc]
  have huu : (S x * S x + S y * S y) * Flo.u * Flo.u ≤ (S x * S x + S y * S y) * Flo.u := by
    have := Rat.mul_le_mul_of_nonneg_left (show Flo.u ≤ 1 by grind) (show 0 ≤ (S x * S x + S y * S y) * Flo.u by grind)
    grind
  have heu : Flo.et * Flo.u ≤ Flo.et := by
    have := Rat.mul_le_mul_of_nonneg_left (show Flo.u ≤ 1 by grind) (Rat.le_of_lt e0)
    grind
  unfold Flo.Ab at *; constructor <;> grind

/-- is a mode with these parts valid? -/
def modeB (pr pi gr gi : Nat) (al : Nat → Nat) : Bool :=
  ((fin .f32 pr && fin .f32 pi) && (fin .f32 gr && fin .f32 gi)) && leB (sqr (wid pr) (wid pi)) 4607182418800017408 && (leB (al (wid gr)) 4652218415073722368 && leB (al (wid gi)) 4652218415073722368)

end Go.Proofs.YtiakcibeobbonaaGreat

/- The walks of what draws modes, and of what tests them.
   Conditions: those that each statement names. -/
namespace Go.Proofs.YtiakcibeobbonaaGreat
set_option linter.unusedSimpArgs false
set_option linter.unusedVariables false
open Go Go.RowKit

/-- a number of single precision, whatever its bits -/
def SinP (B : Nat) (w0 : World) (a : Option Addr) (len cap c : Nat) (e : Ending) (w' : World) : Prop :=
  ∃ x y : Nat, e = .returned (.complex .f32 x y) ∧ At B w0 a len cap c w'
theorem l1Single_at (B : Nat) (w0 : World) (a : Option Addr) (len cap c : Nat) (w : World) (hc : At B w0 a len cap c w) :
    Calls Tryz.prog 71 #[.pointer (some ⟨c, 0, none⟩)] w (SinP B w0 a len cap c) := by
  go_enter Tryz.func71, Tryz.ntmps71
  go_wp2_with fail
  refine (l1Any_at _ _ _ _ _ _ _ hc).mono ?_
  rintro e w1 ⟨x, rfl, x0, hc1⟩
  have Hc1 := Lib.hid hc1
  clear hc1
  go_wp2_with fail
  refine (l1Any_at _ _ _ _ _ _ _ (At.draw Hc1.out _)).mono ?_
  rintro e w2 ⟨y, rfl, y0, hc2⟩
  have Hc2 := Lib.hid hc2
  clear hc2
  go_wp2
  go_ret
  exact ⟨_, _, rfl, At.draw Hc2.out _⟩

theorem l2Turn_at (B : Nat) (w0 : World) (a : Option Addr) (len cap c : Nat) (w : World) (hc : At B w0 a len cap c w) :
    Calls Tryz.prog 68 #[.pointer (some ⟨c, 0, none⟩)] w (SinP B w0 a len cap c) := by
  go_enter Tryz.func68, Tryz.ntmps68
  go_wp2_with (go_at_call 22; refine (below_at _ _ _ _ _ _ _ (by omega) (by omega) _ (by first | assumption | exact At.draw (by assumption) _)).mono ?_; rintro e w1 ⟨x, x0, x1, rfl, hc1⟩)
  all_goals
    go_ret
    first
      | exact ⟨_, _, rfl, by assumption⟩
      | exact ⟨_, _, rfl, At.draw (by assumption) _⟩

/-- n integers from the head of block g on -/
def Ints (w : World) (g n : Nat) : Prop := ∀ k, k < n → ∃ z : Int, w.cell? ⟨g, k, none⟩ = some (.int .i64 z)
def IntP (B : Nat) (w0 : World) (a : Option Addr) (len cap c : Nat) (e : Ending) (w' : World) : Prop :=
  ∃ x : Int, e = .returned (.int .i64 x) ∧ At B w0 a len cap c w'
theorem l01Int_at (B : Nat) (w0 : World) (a : Option Addr) (len cap c : Nat) (g n m : Nat) (hn : 1 ≤ n) (hn2 : n ≤ 256) (w : World) (hc : At B w0 a len cap c w) (hg : g < w.heap.size) (hgc : g ≠ c) (hi : Ints w g n) :
    Calls Tryz.prog 23 #[.pointer (some ⟨c, 0, none⟩), .slice (some ⟨g, 0, none⟩) n m] w (IntP B w0 a len cap c) := by
  have Hi := Lib.hid hi
  clear hi
  have Hc := Lib.hid hc
  clear hc
  go_enter Tryz.func23, Tryz.ntmps23
  go_wp2_with fail
  refine (below_at _ _ _ _ _ _ _ (by omega) (by omega) _ Hc.out.here).mono ?_
  rintro e w1 ⟨x, x0, x1, rfl, hc1⟩
  obtain ⟨k, rfl⟩ : ∃ k : Nat, x = k := ⟨x.toNat, by omega⟩
  obtain ⟨z, hz⟩ := Hi.out k (by omega)
  have hz1 : w1.cell? ⟨g, k, none⟩ = some (.int .i64 z) := by rw [hc1.2.cell (p := ⟨g, k, none⟩) hg hgc]; exact hz
  have hkn : k < n := by omega
  have Hc1 := Lib.hid (show At B w0 a len cap c w1 from ⟨hc1.1, Hc.out.2.trans hc1.2⟩)
  clear hc1 hz
  go_wp2
  go_ret
  exact ⟨_, rfl, Hc1.out⟩

theorem ints4 (w : World) (T : TypeId) (z0 z1 z2 z3 : Int) : Ints ((w.alloc (.cells #[.int .i64 z0, .int .i64 z1, .int .i64 z2, .int .i64 z3] T (0, 0))).drewN 1) w.heap.size 4 := by
  intro k hk
  match k, hk with
  | 0, _ => exact ⟨z0, by go_simp⟩
  | 1, _ => exact ⟨z1, by go_simp⟩
  | 2, _ => exact ⟨z2, by go_simp⟩
  | 3, _ => exact ⟨z3, by go_simp⟩

/-! ### small functions on numbers -/
theorem scaleSpec_any (x y k : Nat) (w : World) :
    Calls Tryz.prog 70 #[.complex .f32 x y, .float .f32 k] w fun e w' => ∃ w1 n, e = .returned (.complex .f32 (fres w .mul .f32 x k) (fres w1 .mul .f32 y k)) ∧ w' = w.drewN n := by
  go_enter Tryz.func70, Tryz.ntmps70
  go_wp2
  all_goals (go_ret; exact ⟨_, _, rfl, rfl⟩)

theorem finiteSingle_any (x y : Nat) (w : World) :
    Calls Tryz.prog 72 #[.complex .f32 x y] w fun e w' => e = .returned (.bool (fin .f32 x && fin .f32 y)) ∧ ∃ n, w' = w.drewN n := by
  go_enter Tryz.func72, Tryz.ntmps72
  go_wp2_with (go_at_call 101; refine (finiteDouble_any _ _ _).mono ?_; rintro e w' ⟨rfl, n, rfl⟩)
  go_ret
  exact ⟨by simp [fin_up], _, rfl⟩

theorem l2Square_fin (x y : Nat) (w : World) (hx : Sm x) (hy : Sm y) :
    Calls Tryz.prog 73 #[.complex .f64 (wid x) (wid y)] w fun e w' => e = .returned (.float .f64 (sqr (wid x) (wid y))) ∧ w = w' := by
  obtain ⟨a, b, h1, h2, h3, -, -⟩ := sqr_num hx hy
  have f1 : ∀ w, fres w .mul .f64 (wid x) (wid x) = a := fun w => by unfold fres; rw [h1]
  have f2 : ∀ w, fres w .mul .f64 (wid y) (wid y) = b := fun w => by unfold fres; rw [h2]
  have f3 : ∀ w, fres w .add .f64 a b = sqr (wid x) (wid y) := fun w => by unfold fres; rw [h3]
  have d1 : fdr .mul .f64 (wid x) (wid x) = 0 := by unfold fdr; rw [h1]; rfl
  have d2 : fdr .mul .f64 (wid y) (wid y) = 0 := by unfold fdr; rw [h2]; rfl
  have d3 : fdr .add .f64 a b = 0 := by unfold fdr; rw [h3]; rfl
  clear h1 h2 h3
  go_enter Tryz.func73, Tryz.ntmps73
  go_wp2
  all_goals (go_ret; exact ⟨rfl, rfl⟩)

theorem l2Gain_any (x y : Nat) (w : World) :
    Calls Tryz.prog 74 #[.complex .f64 x y] w fun e w' => e = .returned (.bool (leB (labs x) 4652218415073722368 && leB (labs y) 4652218415073722368)) ∧ w = w' := by
  go_enter Tryz.func74, Tryz.ntmps74
  go_wp2_with (go_at_call 98; refine (l1Abs_any _ _).mono ?_; rintro e w' ⟨rfl, rfl⟩)
  all_goals (go_ret; refine ⟨?_, rfl⟩; simp_all [leB])

def ModeP (P : Nat → Nat → Nat → Nat → Prop) (w : World) (e : Ending) (w' : World) : Prop :=
  ∃ pr pi gr gi : Nat, e = .returned (.agg #[.complex .f32 pr pi, .complex .f32 gr gi]) ∧ P pr pi gr gi ∧ Nw w w'
def TestP (b : Bool) (w : World) (e : Ending) (w' : World) : Prop := e = .returned (.bool b) ∧ Nw w w'

theorem specMode_any (pr pi gr gi : Nat) (w : World) :
    Calls Tryz.prog 44 #[.agg #[.complex .f32 pr pi, .complex .f32 gr gi]] w (TestP (modeB pr pi gr gi labs) w) := by
  cases hf : (fin .f32 pr && fin .f32 pi)
  · go_enter Tryz.func44, Tryz.ntmps44
    go_wp2_with (go_at_call 72; refine (finiteSingle_any _ _ _).mono ?_; rintro e w' ⟨rfl, n, rfl⟩)
    go_ret
    exact ⟨by simp [modeB, hf], ((Nw.refl _).alloc _).draw _⟩
  · cases hg : (fin .f32 gr && fin .f32 gi)
    · go_enter Tryz.func44, Tryz.ntmps44
      go_wp2_with (go_at_call 72; refine (finiteSingle_any _ _ _).mono ?_; rintro e w' ⟨rfl, n, rfl⟩)
      go_ret
      exact ⟨by simp [modeB, hg], ((Nw.refl _).alloc _).draw _⟩
    · have hf2 := hf
      have hg2 := hg
      simp only [Bool.and_eq_true] at hf2 hg2
      have a1 := fcv_up (Sm_of hf2.1)
      have a2 := fcv_up (Sm_of hf2.2)
      have a3 := fcv_up (Sm_of hg2.1)
      have a4 := fcv_up (Sm_of hg2.2)
      have b1 := fcd_up (Sm_of hf2.1)
      have b2 := fcd_up (Sm_of hf2.2)
      have b3 := fcd_up (Sm_of hg2.1)
      have b4 := fcd_up (Sm_of hg2.2)
      have S1 := Lib.hid (Sm_of hf2.1)
      have S2 := Lib.hid (Sm_of hf2.2)
      clear hf2 hg2
      go_enter Tryz.func44, Tryz.ntmps44
      go_wp2_with (first
        | (go_at_call 72; refine (finiteSingle_any _ _ _).mono ?_; rintro e w' ⟨rfl, n, rfl⟩)
        | (go_at_call 73; refine (l2Square_fin _ _ _ S1.out S2.out).mono ?_; rintro e w' ⟨rfl, rfl⟩)
        | (go_at_call 74; refine (l2Gain_any _ _ _).mono ?_; rintro e w' ⟨rfl, rfl⟩))
      all_goals (go_ret; exact ⟨by simp_all [modeB, leB], ((Nw.refl _).alloc _).draw _⟩)

def AggP (B : Nat) (w0 : World) (a : Option Addr) (len cap c : Nat) (e : Ending) (w' : World) : Prop :=
  ∃ pr pi gr gi : Nat, e = .returned (.agg #[.complex .f32 pr pi, .complex .f32 gr gi]) ∧ At B w0 a len cap c w'
theorem At.alloc {B : Nat} {w0 : World} {a : Option Addr} {len cap c : Nat} {w : World} (h : At B w0 a len cap c w) (o : Obj) : At B w0 a len cap c (w.alloc o) := by
  obtain ⟨⟨h1, h2, h3, i, j, h4, h5, h6, h7, h8, h9, h10⟩, hk⟩ := h
  have k : ∀ p, p.block = c → (w.alloc o).cell? p = w.cell? p := fun p hp => World.cell?_of_block (w := w) (Below.heap_alloc _ _ _ (by omega))
  have f : ∀ p, p.block = c → (w.alloc o).frozen? p = w.frozen? p := fun p hp => World.frozen?_of_block (w := w) (Below.heap_alloc _ _ _ (by omega))
  exact ⟨⟨h1, by simp; omega, h3.below ((Below.refl _ _).alloc (by omega) _), i, j, h4, by rw [k _ rfl]; exact h5, by rw [k _ rfl]; exact h6, by rw [k _ rfl]; exact h7, by rw [f _ rfl]; exact h8, by rw [f _ rfl]; exact h9, by rw [f _ rfl]; exact h10⟩, hk.alloc o⟩

/-- block b holds a mode -/
def HasMode (w : World) (b : Nat) (pr pi gr gi : Nat) : Prop :=
  b < w.heap.size ∧ w.cell? ⟨b, 0, none⟩ = some (.complex .f32 pr pi) ∧ w.cell? ⟨b, 1, none⟩ = some (.complex .f32 gr gi) ∧ w.frozen? ⟨b, 0, none⟩ = false ∧ w.frozen? ⟨b, 1, none⟩ = false
theorem HasMode.of {w w' : World} {b pr pi gr gi : Nat} (h : HasMode w b pr pi gr gi) (hs : w.heap.size ≤ w'.heap.size) (hb : w'.heap[b]? = w.heap[b]?) : HasMode w' b pr pi gr gi := by
  obtain ⟨h0, h1, h2, h3, h4⟩ := h
  have k : ∀ p : Addr, p.block = b → w'.cell? p = w.cell? p := fun p hp => World.cell?_of_block (w := w) (by rw [hp]; exact hb)
  have f : ∀ p : Addr, p.block = b → w'.frozen? p = w.frozen? p := fun p hp => World.frozen?_of_block (w := w) (by rw [hp]; exact hb)
  exact ⟨by omega, by rw [k _ rfl]; exact h1, by rw [k _ rfl]; exact h2, by rw [f _ rfl]; exact h3, by rw [f _ rfl]; exact h4⟩
theorem HasMode.kp {c : Nat} {w w' : World} {b pr pi gr gi : Nat} (h : HasMode w b pr pi gr gi) (hk : Kp c w w') (hne : b ≠ c) : HasMode w' b pr pi gr gi :=
  h.of hk.size (hk.block b h.1 (fun e => hne (by cases e; rfl)))
theorem HasMode.nw {w w' : World} {b pr pi gr gi : Nat} (h : HasMode w b pr pi gr gi) (hk : Nw w w') : HasMode w' b pr pi gr gi :=
  h.of hk.size (hk.block b h.1 (by simp))
theorem HasMode.draw {w : World} {b pr pi gr gi : Nat} (h : HasMode w b pr pi gr gi) (n : Nat) : HasMode (w.drewN n) b pr pi gr gi := h.nw ((Nw.refl _).draw _)
theorem HasMode.alloc {w : World} {b pr pi gr gi : Nat} (h : HasMode w b pr pi gr gi) (o : Obj) : HasMode (w.alloc o) b pr pi gr gi := h.nw ((Nw.refl _).alloc _)
theorem HasMode.set {w : World} {b pr pi gr gi : Nat} (h : HasMode w b pr pi gr gi) {p : Addr} (hp : p.block ≠ b) (u : Value) : HasMode (w.setCell p u) b pr pi gr gi :=
  h.of (by simp [World.setCell]) (Below.heap_setCell _ _ _ _ (fun e => hp e.symm))
theorem HasMode.new (w : World) (T : TypeId) (pr pi gr gi : Nat) : HasMode (w.alloc (.cells #[.complex .f32 pr pi, .complex .f32 gr gi] T (0, 0))) w.heap.size pr pi gr gi := by
  refine ⟨by simp, ?_, ?_, ?_, ?_⟩ <;> go_simp
theorem HasMode.set0 {w : World} {b pr pi gr gi : Nat} (h : HasMode w b pr pi gr gi) (x y : Nat) : HasMode (w.setCell ⟨b, 0, none⟩ (.complex .f32 x y)) b x y gr gi := by
  obtain ⟨h0, h1, h2, h3, h4⟩ := h
  refine ⟨by simpa using h0, ?_, ?_, ?_, ?_⟩ <;> go_simp
theorem HasMode.set1 {w : World} {b pr pi gr gi : Nat} (h : HasMode w b pr pi gr gi) (x y : Nat) : HasMode (w.setCell ⟨b, 1, none⟩ (.complex .f32 x y)) b pr pi x y := by
  obtain ⟨h0, h1, h2, h3, h4⟩ := h
  refine ⟨by simpa using h0, ?_, ?_, ?_, ?_⟩ <;> go_simp

/-- the cursor stands, and two variables of the call's own hold modes: the result, and another -/
def LocM (B : Nat) (w0 : World) (a : Option Addr) (len cap c br bm : Nat) (wx : World) : Prop :=
  At B w0 a len cap c wx ∧ (bm ≠ c ∧ B ≤ bm ∧ w0.heap.size ≤ bm) ∧ br ≠ c ∧ br ≠ bm ∧ (∃ pr pi gr gi, HasMode wx br pr pi gr gi) ∧ ∃ pr pi gr gi, HasMode wx bm pr pi gr gi
theorem At.set {B : Nat} {w0 : World} {a : Option Addr} {len cap c : Nat} {w : World} (h : At B w0 a len cap c w) {p : Addr} (hne : p.block ≠ c) (hB : B ≤ p.block) (hw : w0.heap.size ≤ p.block) (u : Value) : At B w0 a len cap c (w.setCell p u) := by
  obtain ⟨⟨h1, h2, h3, i, j, h4, h5, h6, h7, h8, h9, h10⟩, hk⟩ := h
  have k : ∀ q : Addr, q.block = c → (w.setCell p u).cell? q = w.cell? q := fun q hq => World.cell?_of_block (w := w) (Below.heap_setCell _ _ _ _ (by omega))
  have f : ∀ q : Addr, q.block = c → (w.setCell p u).frozen? q = w.frozen? q := fun q hq => World.frozen?_of_block (w := w) (Below.heap_setCell _ _ _ _ (by omega))
  exact ⟨⟨h1, by simpa using h2, h3.below ((Below.refl _ _).setCell hB _), i, j, h4, by rw [k _ rfl]; exact h5, by rw [k _ rfl]; exact h6, by rw [k _ rfl]; exact h7, by rw [f _ rfl]; exact h8, by rw [f _ rfl]; exact h9, by rw [f _ rfl]; exact h10⟩,
    hk.os, hk.tape, hk.output, by simpa using hk.size, fun q hq hne => by rw [← hk.block q hq hne]; exact Below.heap_setCell _ _ _ _ (by omega)⟩
section
variable {B : Nat} {w0 : World} {a : Option Addr} {len cap c br bm : Nat} {w : World}
theorem LocM.draw (h : LocM B w0 a len cap c br bm w) (n : Nat) : LocM B w0 a len cap c br bm (w.drewN n) := by
  obtain ⟨h1, h2, h3, h4, ⟨r1, r2, r3, r4, hr⟩, m1, m2, m3, m4, hm⟩ := h
  exact ⟨h1.draw n, h2, h3, h4, ⟨_, _, _, _, hr.draw n⟩, _, _, _, _, hm.draw n⟩
theorem LocM.alloc (h : LocM B w0 a len cap c br bm w) (o : Obj) : LocM B w0 a len cap c br bm (w.alloc o) := by
  obtain ⟨h1, h2, h3, h4, ⟨r1, r2, r3, r4, hr⟩, m1, m2, m3, m4, hm⟩ := h
  exact ⟨h1.alloc o, h2, h3, h4, ⟨_, _, _, _, hr.alloc o⟩, _, _, _, _, hm.alloc o⟩
theorem LocM.step {w' : World} (h : LocM B w0 a len cap c br bm w) (g : At B w a len cap c w') : LocM B w0 a len cap c br bm w' := by
  obtain ⟨h1, h2, h3, h4, ⟨r1, r2, r3, r4, hr⟩, m1, m2, m3, m4, hm⟩ := h
  exact ⟨⟨g.1, h1.2.trans g.2⟩, h2, h3, h4, ⟨_, _, _, _, hr.kp g.2 h3⟩, _, _, _, _, hm.kp g.2 h2.1⟩
theorem LocM.set0 (h : LocM B w0 a len cap c br bm w) (x y : Nat) : LocM B w0 a len cap c br bm (w.setCell ⟨bm, 0, none⟩ (.complex .f32 x y)) := by
  obtain ⟨h1, h2, h3, h4, ⟨r1, r2, r3, r4, hr⟩, m1, m2, m3, m4, hm⟩ := h
  exact ⟨h1.set h2.1 h2.2.1 h2.2.2 _, h2, h3, h4, ⟨_, _, _, _, hr.set (fun e => h4 e.symm) _⟩, _, _, _, _, hm.set0 x y⟩
theorem LocM.set1 (h : LocM B w0 a len cap c br bm w) (x y : Nat) : LocM B w0 a len cap c br bm (w.setCell ⟨bm, 1, none⟩ (.complex .f32 x y)) := by
  obtain ⟨h1, h2, h3, h4, ⟨r1, r2, r3, r4, hr⟩, m1, m2, m3, m4, hm⟩ := h
  exact ⟨h1.set h2.1 h2.2.1 h2.2.2 _, h2, h3, h4, ⟨_, _, _, _, hr.set (fun e => h4 e.symm) _⟩, _, _, _, _, hm.set1 x y⟩
end

set_option maxHeartbeats 3200000 in
theorem l2Mode_at (B : Nat) (w0 : World) (a : Option Addr) (len cap c : Nat) (w : World) (hc : At B w0 a len cap c w) :
    Calls Tryz.prog 43 #[.pointer (some ⟨c, 0, none⟩)] w (AggP B w0 a len cap c) := by
  have hcs : c < w.heap.size := hc.1.2.1
  have Hc := Lib.hid hc
  clear hc
  go_enter Tryz.func43, Tryz.ntmps43
  go_wp2_with fail
  refine (l2Turn_at _ _ _ _ _ _ _ (Hc.out.alloc _).here).mono ?_
  rintro e w1 ⟨x, y, rfl, hc1⟩
  have Hr := Lib.hid ((HasMode.new w 93 0 0 0 0).kp hc1.2 (by omega))
  have Hc1 := Lib.hid (show At B w0 a len cap c w1 from ⟨hc1.1, (Hc.out.alloc _).2.trans hc1.2⟩)
  clear hc1
  go_wp2_with fail
  refine (below_at _ _ _ _ _ _ _ (by omega) (by omega) _ Hc1.out.here).mono ?_
  rintro e w2 ⟨x2, x20, x21, rfl, hc2⟩
  have Hr := Lib.hid (Hr.out.kp hc2.2 (by omega))
  have Hc2 := Lib.hid (show At B w0 a len cap c w2 from ⟨hc2.1, Hc1.out.2.trans hc2.2⟩)
  clear hc2
  go_wp2_with fail
  refine (below_at _ _ _ _ _ _ _ (by omega) (by omega) _ (Hc2.out.here.draw _)).mono ?_
  rintro e w3 ⟨x3, x30, x31, rfl, hc3⟩
  have Hr := Lib.hid (Hr.out.kp hc3.2 (by omega))
  have Hc3 := Lib.hid (show At B w0 a len cap c w3 from ⟨hc3.1, Hc2.out.2.trans hc3.2⟩)
  clear hc3
  have hb3 : w3.heap.size ≠ c := by have := Hc3.out.1.2.1; omega
  have hb4 : w.heap.size ≠ w3.heap.size := by have := Hc3.out.2.size; have := Hr.out.1; omega
  have hcr : w.heap.size ≠ c := by omega
  have Hc4 := Lib.hid (Hc3.out.alloc (.cells #[.complex .f32 x y, .complex .f32 (fres w2 .quo .f32 (floatOfInt .f32 (x2 - 32)) 1090519040) (fres w3 .quo .f32 (floatOfInt .f32 (x3 - 32)) 1090519040)] 93 (0, 0)))
  have Hm4 := Lib.hid (HasMode.new w3 93 x y (fres w2 .quo .f32 (floatOfInt .f32 (x2 - 32)) 1090519040) (fres w3 .quo .f32 (floatOfInt .f32 (x3 - 32)) 1090519040))
  have Hr4 := Lib.hid (Hr.out.alloc (.cells #[.complex .f32 x y, .complex .f32 (fres w2 .quo .f32 (floatOfInt .f32 (x2 - 32)) 1090519040) (fres w3 .quo .f32 (floatOfInt .f32 (x3 - 32)) 1090519040)] 93 (0, 0)))
  go_wp2_with fail
  refine (once_at _ _ _ _ _ _ _ (by omega) (by omega) _ (Hc4.out.here.draw _)).mono ?_
  rintro e w4 ⟨b, rfl, hc4⟩
  have Hl := Lib.hid (show LocM B w0 a len cap c w.heap.size w3.heap.size w4 from ⟨⟨hc4.1, Hc4.out.2.trans hc4.2⟩, ⟨hb3, by have := hc4.1.1; have := Hc3.out.1.2.1; omega, Hc3.out.2.size⟩, hcr, hb4, ⟨_, _, _, _, Hr4.out.kp hc4.2 hcr⟩, _, _, _, _, Hm4.out.kp hc4.2 hb3⟩)
  clear hc4
  go_upto_if 19 with fail
  go_cut [] (fun wx => LocM B w0 a len cap c w.heap.size w3.heap.size wx)
  case first =>
    cases b
    · go_wp2_with fail
      go_meet
      exact Hl.out
    · obtain ⟨hc5, -, -, -, ⟨r1, r2, r3, r4, hr⟩, m1, m2, m3, m4, hm⟩ := Hl.out
      have Hr5 := Lib.hid hr
      have Hm5 := Lib.hid hm
      have Hc5 := Lib.hid hc5
      obtain ⟨hm0, hm1, hm2, hm3, hm4⟩ := hm
      clear hr hc5
      have Ha := Lib.hid ((Hc5.out.alloc (.cells #[.int .i64 999, .int .i64 990, .int .i64 500, .int .i64 1000] 3 (0, 0))).draw 1)
      have Hi := Lib.hid (ints4 w4 3 999 990 500 1000)
      have hfz : ∀ o, (w4.alloc o).frozen? ⟨w3.heap.size, 0, none⟩ = false := fun o => (Hm5.out.alloc o).2.2.2.1
      have h4c : w4.heap.size ≠ c := by have := Hc5.out.1.2.1; omega
      have hq : ∀ z, fdr .quo .f32 (floatOfInt .f32 z) 1148846080 = 0 := fun z => quo_calm (int_nn _ _) (show FloatKind.f32.decode 1148846080 = .number false 16384000 (-14) by decide) (by decide)
      have hf : ∀ (z : Int) (w : World), fres w .quo .f32 (floatOfInt .f32 z) 1148846080 = (floatBits .quo .f32 (floatOfInt .f32 z) 1148846080).getD 0 := fun z w => fres_calm (hq z) w
      have hq2 : ∀ (z : Int) (w : World), (binOp .quo 23 (.float .f32 (floatOfInt .f32 z)) (.float .f32 1148846080)).run Tryz.prog w = .ok (.float .f32 ((floatBits .quo .f32 (floatOfInt .f32 z) 1148846080).getD 0)) w := by
        intro z w
        rw [run_fl_quo, hq, hf]; rfl
      go_wp2_with fail
      go_region_with
        (first
          | (go_at_call 23; refine (l01Int_at B _ a len cap c w4.heap.size 4 4 (by omega) (by omega) _ Ha.out.here (by simp) h4c Hi.out).mono ?_; rintro e w6 ⟨z, rfl, hc6⟩; have h6 : w6.cell? ⟨w3.heap.size, 0, none⟩ = some (.complex .f32 m1 m2) := ((((Hm5.out.alloc _).draw _).kp hc6.2 hb3).2.1); have h6f : w6.frozen? ⟨w3.heap.size, 0, none⟩ = false := ((((Hm5.out.alloc _).draw _).kp hc6.2 hb3).2.2.2.1))
          | (go_at_call 70; refine (scaleSpec_any _ _ _ _).mono ?_; rintro e w7 ⟨w8, n, rfl, rfl⟩))
      all_goals (go_wp2_with fail; go_meet; exact ((((Hl.out.alloc _).draw 1).step hc6).set0 _ _).draw _)
  case rest =>
    have Hl := Lib.hid hcut
    clear hcut
    go_wp2_with fail
    refine (once_at _ _ _ _ _ _ _ (by omega) (by omega) _ Hl.out.1.here).mono ?_
    rintro e w5 ⟨b5, rfl, hc5⟩
    have Hl := Lib.hid (Hl.out.step hc5)
    clear hc5
    go_upto_if 30 with fail
    go_cut [] (fun wx => LocM B w0 a len cap c w.heap.size w3.heap.size wx)
    case first =>
      cases b5
      · go_wp2_with fail
        go_meet
        exact Hl.out
      · go_wp2_with fail
        refine (l1Single_at _ _ _ _ _ _ _ Hl.out.1.here).mono ?_
        rintro e w6 ⟨x6, y6, rfl, hc6⟩
        have Hl := Lib.hid (Hl.out.step hc6)
        clear hc6
        obtain ⟨hc7, -, -, -, -, m1, m2, m3, m4, hm⟩ := Hl.out
        obtain ⟨hm0, hm1, hm2, hm3, hm4⟩ := hm
        clear hc7
        go_wp2_with fail
        go_meet
        exact Hl.out.set0 _ _
    case rest =>
      have Hl := Lib.hid hcut
      clear hcut
      go_wp2_with fail
      refine (once_at _ _ _ _ _ _ _ (by omega) (by omega) _ Hl.out.1.here).mono ?_
      rintro e w7 ⟨b7, rfl, hc7⟩
      have Hl := Lib.hid (Hl.out.step hc7)
      clear hc7
      go_upto_if 35 with fail
      go_cut [] (fun wx => LocM B w0 a len cap c w.heap.size w3.heap.size wx)
      case first =>
        cases b7
        · go_wp2_with fail
          go_meet
          exact Hl.out
        · go_wp2_with fail
          refine (l1Single_at _ _ _ _ _ _ _ Hl.out.1.here).mono ?_
          rintro e w8 ⟨x8, y8, rfl, hc8⟩
          have Hl := Lib.hid (Hl.out.step hc8)
          clear hc8
          obtain ⟨hc9, -, -, -, -, m1, m2, m3, m4, hm⟩ := Hl.out
          obtain ⟨hm0, hm1, hm2, hm3, hm4⟩ := hm
          clear hc9
          go_wp2_with fail
          go_meet
          exact Hl.out.set1 _ _
      case rest =>
        obtain ⟨hc9, ⟨-, hB, hw0⟩, hrc, hrm, ⟨r1, r2, r3, r4, hr⟩, m1, m2, m3, m4, hm⟩ := hcut
        have Hc9 := Lib.hid hc9
        have Hr9 := Lib.hid hr
        obtain ⟨hr0, hr1, hr2, hr3, hr4⟩ := hr
        obtain ⟨hm0, hm1, hm2, hm3, hm4⟩ := hm
        clear hc9
        have hBr : B ≤ w.heap.size := by have := Hc.out.1.1; omega
        go_wp2_with fail
        exact bodyPost_ret (v := .agg #[.complex .f32 m1 m2, .complex .f32 m3 m4]) (by simp [results, Tryz.results43, go_sem, hr0, hr1, hr2]) rfl
          ⟨_, _, _, _, rfl, (Hc9.out.set hrc hBr Hc.out.2.size _).set hrc hBr Hc.out.2.size _⟩

end Go.Proofs.YtiakcibeobbonaaGreat

/- Plain facts: the quotient of numbers of moderate size exists, and its product with the divisor is near the dividend, as the law's test of it says.
   Conditions: those that each statement names. -/
namespace Go.Proofs.YtiakcibeobbonaaGreat
set_option linter.unusedSimpArgs false
set_option linter.unusedVariables false
open Go Go.RowKit

theorem ra_ab (q : Rat) : Flo.Ab q (ra q) := by unfold ra Flo.Ab; split <;> grind
theorem ra_le {q B : Rat} (h : Flo.Ab q B) : ra q ≤ B := by unfold ra; unfold Flo.Ab at h; split <;> grind
theorem ra_or (q : Rat) : q = ra q ∨ q = -ra q := by unfold ra; split <;> grind

theorem abs_num (x : Nat) (h : Flo.Nm x) : Flo.Nm (Op.Complex.abs x) ∧ Flo.W (Op.Complex.abs x) = ra (Flo.W x) := by
  obtain ⟨s, m, p, hr⟩ := h
  have h1 := mod_read x
  rw [show FloatKind.f64.decode x = _ from hr] at h1
  have h2 : Ieee.double.read (Op.Complex.abs x) = .number false m p := h1
  refine ⟨⟨_, _, _, h2⟩, ?_⟩
  rw [show Flo.W (Op.Complex.abs x) = _ from Flo.V_eq h2, show Flo.W x = _ from Flo.V_eq hr]
  have hmp : 0 ≤ (m : Rat) * Flo.pw p := by
    have a1 : (0 : Rat) ≤ m := by exact_mod_cast Nat.zero_le m
    exact Rat.mul_nonneg a1 (Rat.le_of_lt (Flo.pw_pos p))
  unfold Flo.val ra
  cases s
  · simp only [Bool.false_eq_true, if_false]; rw [if_neg (by grind)]
  · simp only [if_true, Bool.false_eq_true, if_false]; split <;> grind

theorem absGe_iff (c d : Nat) (hc : Flo.Nm c) (hd : Flo.Nm d) : absGe c d = true ↔ ra (Flo.W d) ≤ ra (Flo.W c) := by
  have lc := abs_num c hc
  have ld := abs_num d hd
  have o := Flo.order_num Ieee.double _ _ lc.1 ld.1
  rw [show Flo.V Ieee.double (Op.Complex.abs c) = _ from lc.2, show Flo.V Ieee.double (Op.Complex.abs d) = _ from ld.2] at o
  unfold absGe
  rw [show FloatKind.f64.format = Ieee.double from rfl, Bool.or_eq_true, beq_iff_eq, beq_iff_eq, o.2.2, o.2.1]
  constructor
  · intro h; rcases h with h | h <;> grind
  · intro h; grind

theorem fA_some (op : BinOp) (a b : Nat) : fA op .f64 (some a) (some b) = floatBits op .f64 a b := rfl
theorem fab_num {x : Nat} (h : Flo.Nm x) : fab .f64 x = some x := fab_of_fin ((fin_iff .f64 x).2 h)
theorem fin_num {x : Nat} (h : Flo.Nm x) : fin .f64 x = true := (fin_iff .f64 x).2 h

/-- where the walk of the quotient's main road says so, the contract of DivideDouble says so -/
theorem divD_of_main (a b c d e f : Nat) (ha : Flo.Nm a) (hb : Flo.Nm b) (hc : Flo.Nm c) (hd : Flo.Nm d) (he : Flo.Nm e) (hf : Flo.Nm f)
    (hz : 0 < ra (Flo.W c) + ra (Flo.W d)) (h : cQuoBits a b c d = some (e, f)) : divD a b c d = some (e, f) := by
  have hq : qA a b c d = (some e, some f) := by
    unfold cQuoBits at h
    simp only at h
    obtain ⟨⟨e', f'⟩, hef, hfin⟩ := bind_some h
    simp only at hfin
    split at hfin
    · simp only [Option.some.injEq, Prod.mk.injEq] at hfin
      obtain ⟨rfl, rfl⟩ := hfin
      unfold qA
      split at hef
      · rename_i hge
        rw [if_pos hge]
        obtain ⟨r, h1, hef⟩ := bind_some hef
        obtain ⟨rd, h2, hef⟩ := bind_some hef
        obtain ⟨m, h3, hef⟩ := bind_some hef
        obtain ⟨br, h4, hef⟩ := bind_some hef
        obtain ⟨n1, h5, hef⟩ := bind_some hef
        obtain ⟨e', h6, hef⟩ := bind_some hef
        obtain ⟨ar, h7, hef⟩ := bind_some hef
        obtain ⟨n2, h8, hef⟩ := bind_some hef
        obtain ⟨f', h9, hef⟩ := bind_some hef
        simp only [Option.some.injEq, Prod.mk.injEq] at hef
        obtain ⟨rfl, rfl⟩ := hef
        simp only [fA_some, h1, h2, h3, h4, h5, h6, h7, h8, h9]
      · rename_i hge
        rw [if_neg hge]
        obtain ⟨r, h1, hef⟩ := bind_some hef
        obtain ⟨rd, h2, hef⟩ := bind_some hef
        obtain ⟨m, h3, hef⟩ := bind_some hef
        obtain ⟨br, h4, hef⟩ := bind_some hef
        obtain ⟨n1, h5, hef⟩ := bind_some hef
        obtain ⟨e', h6, hef⟩ := bind_some hef
        obtain ⟨ar, h7, hef⟩ := bind_some hef
        obtain ⟨n2, h8, hef⟩ := bind_some hef
        obtain ⟨f', h9, hef⟩ := bind_some hef
        simp only [Option.some.injEq, Prod.mk.injEq] at hef
        obtain ⟨rfl, rfl⟩ := hef
        simp only [fA_some, h1, h2, h3, h4, h5, h6, h7, h8, h9]
    · cases hfin
  have hz2 : ((FloatKind.f64.format.order c 0 == some .eq) && (FloatKind.f64.format.order d 0 == some .eq)) = false := by
    rw [Bool.and_eq_false_iff]
    have oc := (Flo.order_num Ieee.double c 0 hc zero_num.1).2.1
    have od := (Flo.order_num Ieee.double d 0 hd zero_num.1).2.1
    rw [show Flo.V Ieee.double 0 = 0 from zero_num.2] at oc od
    by_cases h0 : Flo.W c = 0
    · right
      have h1 : ¬ Flo.W d = 0 := by intro h1; rw [h0, h1] at hz; unfold ra at hz; grind
      have h2 : ¬ Ieee.double.order d 0 = some .eq := fun g => h1 (od.1 g)
      exact beq_eq_false_iff_ne.2 h2
    · left
      have h2 : ¬ Ieee.double.order c 0 = some .eq := fun g => h0 (oc.1 g)
      exact beq_eq_false_iff_ne.2 h2
  unfold divD
  rw [fin_num ha, fin_num hb, fin_num hc, fin_num hd, hz2, hq]
  simp [fin_num he, fin_num hf]

/-- the quotient of numbers of moderate size: with S the dividend's size, T the size's quotient by the divisor's greater part C -/
theorem quo_moderate (a b c d : Nat) (h1 : Moderate a b) (h2 : Moderate c d) :
    ∃ e f, divD a b c d = some (e, f) ∧ Flo.Nm e ∧ Flo.Nm f ∧ ∃ S T C : Rat, S = Flo.W (labs a) + Flo.W (labs b) ∧ T * C = S ∧ 0 < C ∧ Flo.Ab (Flo.W c) C ∧ Flo.Ab (Flo.W d) C ∧ Flo.Ab (Flo.W a) S ∧ Flo.Ab (Flo.W b) S ∧
      Flo.et ≤ Flo.u * (Flo.u * S) ∧ S ≤ Flo.pw 201 ∧ Flo.Ab (Flo.W e) (9 * T) ∧ Flo.Ab (Flo.W f) (9 * T) ∧
      Flo.Ab (Flo.W e * Flo.W c - Flo.W f * Flo.W d - Flo.W a) (124 * (Flo.u * S)) ∧ Flo.Ab (Flo.W e * Flo.W d + Flo.W f * Flo.W c - Flo.W b) (124 * (Flo.u * S)) := by
  obtain ⟨ax, bx, fa, fb, s1, s2, na', nb'⟩ := h1
  obtain ⟨cx, dx, fc, fd, t1, t2, nc', nd'⟩ := h2
  have na := Nm_of_fin fa
  have nb := Nm_of_fin fb
  have nc := Nm_of_fin fc
  have nd := Nm_of_fin fd
  rw [(labs_num a ax na).2, (labs_num b bx nb).2] at *
  rw [(labs_num c cx nc).2, (labs_num d dx nd).2] at t1 t2
  have a0 := ra_nonneg (Flo.W a)
  have b0 := ra_nonneg (Flo.W b)
  have c0 := ra_nonneg (Flo.W c)
  have d0 := ra_nonneg (Flo.W d)
  have haS : Flo.Ab (Flo.W a) (ra (Flo.W a) + ra (Flo.W b)) := (ra_ab _).mono (by grind)
  have hbS : Flo.Ab (Flo.W b) (ra (Flo.W a) + ra (Flo.W b)) := (ra_ab _).mono (by grind)
  generalize hS : ra (Flo.W a) + ra (Flo.W b) = S at *
  have p201 := Flo.pw_pos (-201)
  have hu : Flo.u = Flo.pw (-53) := rfl
  -- the greater part of the divisor
  have key : ∀ C : Rat, Flo.pw (-202) ≤ C → C ≤ Flo.pw 201 → ∃ T, T * C = S ∧ 0 < C ∧ 4 * C < Flo.pw 1023 ∧ 8 * S < Flo.pw 1022 ∧ 8 * T < Flo.pw 1022 ∧ Flo.et ≤ Flo.u * C ∧ Flo.et ≤ Flo.u * S ∧ Flo.et ≤ Flo.u * T ∧ Flo.et ≤ Flo.u * (Flo.u * S) := by
    intro C g1 g2
    have hC : 0 < C := by have := Flo.pw_pos (-202); grind
    have hT : S / C * C = S := by grind
    have u0 := Flo.u_pos
    have e1 : Flo.pw 203 = 4 * Flo.pw 201 := by rw [show (203 : Int) = 201 + 1 + 1 from rfl, Flo.pw_succ, Flo.pw_succ]; grind
    have e2 : Flo.pw 203 < Flo.pw 1023 := Flo.pw_lt (by omega)
    have e3 : Flo.pw 204 = 2 * Flo.pw 203 := by rw [show (204 : Int) = 203 + 1 from rfl, Flo.pw_succ]
    have e4 : Flo.pw 204 < Flo.pw 1022 := Flo.pw_lt (by omega)
    have e5 : Flo.pw 406 = 8 * Flo.pw 403 := by rw [show (406 : Int) = 403 + 1 + 1 + 1 from rfl, Flo.pw_succ, Flo.pw_succ, Flo.pw_succ]; grind
    have e6 : Flo.pw 406 < Flo.pw 1022 := Flo.pw_lt (by omega)
    have t3 : S / C ≤ Flo.pw 403 := by
      have : S / C * C ≤ Flo.pw 403 * C := by
        rw [hT]
        have k1 := Rat.mul_le_mul_of_nonneg_left g1 (Rat.le_of_lt (Flo.pw_pos 403))
        rw [← Flo.pw_add, show (403 + -202 : Int) = 201 from rfl] at k1
        grind
      exact Rat.le_of_mul_le_mul_right this hC
    have t4 : Flo.pw (-402) ≤ S / C := by
      have : Flo.pw (-402) * C ≤ S / C * C := by
        rw [hT]
        have k1 := Rat.mul_le_mul_of_nonneg_left g2 (Rat.le_of_lt (Flo.pw_pos (-402)))
        rw [← Flo.pw_add, show (-402 + 201 : Int) = -201 from rfl] at k1
        grind
      exact Rat.le_of_mul_le_mul_right this hC
    refine ⟨S / C, hT, hC, by grind, by grind, by grind, ?_, ?_, ?_, ?_⟩
    · have k1 := Rat.mul_le_mul_of_nonneg_left g1 (Rat.le_of_lt u0)
      rw [hu, ← Flo.pw_add] at k1
      have k2 : Flo.pw (-1074) ≤ Flo.pw (-53 + -202) := Flo.pw_le (by omega)
      unfold Flo.et; rw [hu]; grind
    · have k1 := Rat.mul_le_mul_of_nonneg_left s1 (Rat.le_of_lt u0)
      rw [hu, ← Flo.pw_add] at k1
      have k2 : Flo.pw (-1074) ≤ Flo.pw (-53 + -201) := Flo.pw_le (by omega)
      unfold Flo.et; rw [hu]; grind
    · have k1 := Rat.mul_le_mul_of_nonneg_left t4 (Rat.le_of_lt u0)
      rw [hu, ← Flo.pw_add] at k1
      have k2 : Flo.pw (-1074) ≤ Flo.pw (-53 + -402) := Flo.pw_le (by omega)
      unfold Flo.et; rw [hu]; grind
    · have k1 := Rat.mul_le_mul_of_nonneg_left s1 (Rat.le_of_lt u0)
      have k3 := Rat.mul_le_mul_of_nonneg_left k1 (Rat.le_of_lt u0)
      rw [hu, ← Flo.pw_add, ← Flo.pw_add] at k3
      have k2 : Flo.pw (-1074) ≤ Flo.pw (-53 + (-53 + -201)) := Flo.pw_le (by omega)
      unfold Flo.et; rw [hu]; grind
  have e202 : Flo.pw (-201) = 2 * Flo.pw (-202) := by rw [← Flo.pw_succ]; rfl
  cases hge : absGe c d with
  | true =>
    have hle := (absGe_iff c d nc nd).1 hge
    obtain ⟨T, hT, hC, k1, k2, k3, k4, k5, k6, k7⟩ := key (ra (Flo.W c)) (by grind) (by grind)
    obtain ⟨e, f, q1, q2, q3, q4, q5, q6, q7⟩ := Flo.quo_ge a b c d na nb nc nd S T _ (ra_or _) hC k1 ((ra_ab _).mono hle) haS hbS k2 hT k3 k4 k5 k6 hge
    exact ⟨e, f, divD_of_main a b c d e f na nb nc nd q2 q3 (by grind) q1, q2, q3, S, T, _, rfl, hT, hC, ra_ab _, (ra_ab _).mono hle, haS, hbS, k7, s2, q4, q5, q6, q7⟩
  | false =>
    have hlt : ra (Flo.W c) ≤ ra (Flo.W d) := by
      have : ¬ ra (Flo.W d) ≤ ra (Flo.W c) := fun g => by rw [(absGe_iff c d nc nd).2 g] at hge; cases hge
      grind
    obtain ⟨T, hT, hC, k1, k2, k3, k4, k5, k6, k7⟩ := key (ra (Flo.W d)) (by grind) (by grind)
    obtain ⟨e, f, q1, q2, q3, q4, q5, q6, q7⟩ := Flo.quo_lt a b c d na nb nc nd S T _ (ra_or _) hC k1 ((ra_ab _).mono hlt) haS hbS k2 hT k3 k4 k5 k6 hge
    exact ⟨e, f, divD_of_main a b c d e f na nb nc nd q2 q3 (by grind) q1, q2, q3, S, T, _, rfl, hT, hC, (ra_ab _).mono hlt, ra_ab _, haS, hbS, k7, s2, q4, q5, q6, q7⟩

/-- a product of a quotient's parts with the divisor's, each rounded, and their sum: in units of 'u S' -/
theorem part_ok (e c f d : Nat) (he : Flo.Nm e) (hc : Flo.Nm c) (hf : Flo.Nm f) (hd : Flo.Nm d) (S T C : Rat) (hT : T * C = S)
    (hcC : Flo.Ab (Flo.W c) C) (hdC : Flo.Ab (Flo.W d) C) (heT : Flo.Ab (Flo.W e) (9 * T)) (hfT : Flo.Ab (Flo.W f) (9 * T)) (hS : S ≤ Flo.pw 201) (het : Flo.et ≤ Flo.u * (Flo.u * S)) (hS0 : 0 ≤ S) :
    ∃ x y, floatBits .mul .f64 e c = some x ∧ floatBits .mul .f64 f d = some y ∧ Flo.Nm x ∧ Flo.Nm y ∧ Flo.Ab (Flo.W x - Flo.W e * Flo.W c) (10 * (Flo.u * S)) ∧ Flo.Ab (Flo.W y - Flo.W f * Flo.W d) (10 * (Flo.u * S)) ∧
      Flo.Ab (Flo.W x) (10 * S) ∧ Flo.Ab (Flo.W y) (10 * S) := by
  have u0 := Flo.u_pos
  have u1 := Flo.u_le
  have hbig : 32 * Flo.pw 201 < Flo.pw 1023 := by
    have e1 : Flo.pw 206 = 32 * Flo.pw 201 := by rw [show (206 : Int) = 5 + 201 from rfl, Flo.pw_add, show Flo.pw 5 = 32 from Flo.pw_nat 5]
    have e2 : Flo.pw 206 < Flo.pw 1023 := Flo.pw_lt (by omega)
    grind
  have huS : Flo.u * S ≤ S / 1048576 := by
    have := Rat.mul_le_mul_of_nonneg_right u1 hS0; grind
  have huS0 := Rat.mul_nonneg (Rat.le_of_lt u0) hS0
  have huuS : Flo.u * (Flo.u * S) ≤ (Flo.u * S) / 1048576 := by
    have := Rat.mul_le_mul_of_nonneg_right u1 huS0; grind
  have m1 : Flo.Ab (Flo.W e * Flo.W c) (9 * S) := (heT.mul hcC).mono (by rw [← hT]; grind)
  have m2 : Flo.Ab (Flo.W f * Flo.W d) (9 * S) := (hfT.mul hdC).mono (by rw [← hT]; grind)
  obtain ⟨x, x1, x2, x3⟩ := Flo.d_mul e c he hc (9 * S) m1 (by grind)
  obtain ⟨y, y1, y2, y3⟩ := Flo.d_mul f d hf hd (9 * S) m2 (by grind)
  have x3' : Flo.Ab (Flo.W x - Flo.W e * Flo.W c) (10 * (Flo.u * S)) := x3.mono (by grind)
  have y3' : Flo.Ab (Flo.W y - Flo.W f * Flo.W d) (10 * (Flo.u * S)) := y3.mono (by grind)
  exact ⟨x, y, x1, y1, x2, y2, x3', y3', ((x3'.add m1).eq (by grind)).mono (by grind), ((y3'.add m2).eq (by grind)).mono (by grind)⟩

/-- what is left of a part, measured: in units of 'u S' -/
theorem rest_ok (p a : Nat) (hp : Flo.Nm p) (ha : Flo.Nm a) (hp64 : p < 2 ^ 64) (S : Rat) (k : Rat) (hk0 : 0 ≤ k) (hk : k ≤ 1000) (h : Flo.Ab (Flo.W p - Flo.W a) (k * (Flo.u * S))) (hS : S ≤ Flo.pw 201) (het : Flo.et ≤ Flo.u * (Flo.u * S)) (hS0 : 0 ≤ S) :
    ∃ d, floatBits .sub .f64 p a = some d ∧ d < 2 ^ 64 ∧ Flo.Nm d ∧ Flo.Nm (labs d) ∧ 0 ≤ Flo.W (labs d) ∧ Flo.W (labs d) ≤ (k + 1) * (Flo.u * S) := by
  have u0 := Flo.u_pos
  have u1 := Flo.u_le
  have huS0 := Rat.mul_nonneg (Rat.le_of_lt u0) hS0
  have huS : Flo.u * S ≤ S / 1048576 := by
    have := Rat.mul_le_mul_of_nonneg_right u1 hS0; grind
  have huuS : Flo.u * (Flo.u * S) ≤ (Flo.u * S) / 1048576 := by
    have := Rat.mul_le_mul_of_nonneg_right u1 huS0; grind
  have huuS0 := Rat.mul_nonneg (Rat.le_of_lt u0) huS0
  have hk1 := Rat.mul_le_mul_of_nonneg_right hk huS0
  have hk2 := Rat.mul_le_mul_of_nonneg_right hk huuS0
  have hbig : Flo.pw 201 < Flo.pw 1023 := Flo.pw_lt (by omega)
  obtain ⟨d, d1, d2, d3⟩ := Flo.d_sub p a hp ha _ h (by grind)
  have hd64 : d < 2 ^ 64 := by have := floatBits_wf d1; simpa [Lit.wf] using this
  have l := labs_num d hd64 d2
  have hb : Flo.Ab (Flo.W d) ((k + 1) * (Flo.u * S)) := ((d3.add h).eq (show Flo.W d - (Flo.W p - Flo.W a) + (Flo.W p - Flo.W a) = Flo.W d by grind)).mono (by grind)
  exact ⟨d, d1, hd64, d2, l.1, by rw [l.2]; exact ra_nonneg _, by rw [l.2]; exact ra_le hb⟩

/-- what is left of the dividend, measured: at most 340 units of 'u S' -/
theorem diff_ok (a b c d e f p q : Nat) (h1 : Moderate a b) (h2 : Moderate c d) (hdiv : divD a b c d = some (e, f))
    (hp : fab .f64 p = mulRe (fab .f64 e) (fab .f64 f) (fab .f64 c) (fab .f64 d)) (hq : fab .f64 q = mulIm (fab .f64 e) (fab .f64 f) (fab .f64 c) (fab .f64 d)) (hp64 : p < 2 ^ 64) (hq64 : q < 2 ^ 64) :
    ∃ d1 d2 s, floatBits .sub .f64 p a = some d1 ∧ floatBits .sub .f64 q b = some d2 ∧ floatBits .add .f64 (labs d1) (labs d2) = some s ∧ Flo.Nm s ∧ Flo.W s ≤ 340 * (Flo.u * (Flo.W (labs a) + Flo.W (labs b))) := by
  obtain ⟨e', f', hdiv', ne, nf, S, T, C, hS, hT, hC, hcC, hdC, haS, hbS, het, hS201, heT, hfT, g1, g2⟩ := quo_moderate a b c d h1 h2
  rw [hdiv] at hdiv'
  simp only [Option.some.injEq, Prod.mk.injEq] at hdiv'
  obtain ⟨rfl, rfl⟩ := hdiv'
  obtain ⟨ax, bx, fa, fb, s1, s2, nla, nlb⟩ := h1
  obtain ⟨cx, dx, fc, fd, -, -, -, -⟩ := h2
  have na := Nm_of_fin fa
  have nb := Nm_of_fin fb
  have nc := Nm_of_fin fc
  have nd := Nm_of_fin fd
  have u0 := Flo.u_pos
  have u1 := Flo.u_le
  have hS0 : 0 ≤ S := haS.nonneg
  have huS0 := Rat.mul_nonneg (Rat.le_of_lt u0) hS0
  have huS : Flo.u * S ≤ S / 1048576 := by
    have := Rat.mul_le_mul_of_nonneg_right u1 hS0; grind
  have huuS : Flo.u * (Flo.u * S) ≤ (Flo.u * S) / 1048576 := by
    have := Rat.mul_le_mul_of_nonneg_right u1 huS0; grind
  have hbig : 32 * Flo.pw 201 < Flo.pw 1023 := by
    have e1 : Flo.pw 206 = 32 * Flo.pw 201 := by rw [show (206 : Int) = 5 + 201 from rfl, Flo.pw_add, show Flo.pw 5 = 32 from Flo.pw_nat 5]
    have e2 : Flo.pw 206 < Flo.pw 1023 := Flo.pw_lt (by omega)
    grind
  have et0 := Flo.et_pos
  -- the two parts of the product
  obtain ⟨x, y, x1, y1, x2, y2, x3, y3, x4, y4⟩ := part_ok e c f d ne nc nf nd S T C hT hcC hdC heT hfT hS201 het hS0
  obtain ⟨v, z, v1, z1, v2, z2, v3, z3, v4, z4⟩ := part_ok e d f c ne nd nf nc S T C hT hdC hcC heT hfT hS201 het hS0
  obtain ⟨p', p1, p2, p3⟩ := Flo.d_sub x y x2 y2 (20 * S) ((x4.sub y4).mono (by grind)) (by grind)
  obtain ⟨q', q1, q2, q3⟩ := Flo.d_add v z v2 z2 (20 * S) ((v4.add z4).mono (by grind)) (by grind)
  have ep : p = p' := by
    rw [fab_num ne, fab_num nf, fab_num nc, fab_num nd] at hp
    unfold mulRe at hp
    rw [fA_some, fA_some, x1, y1, fA_some, p1, ← fab_num p2] at hp
    rw [fab_num p2] at hp
    unfold fab at hp
    split at hp
    · cases hp
    · simpa using hp
  have eq : q = q' := by
    rw [fab_num ne, fab_num nf, fab_num nc, fab_num nd] at hq
    unfold mulIm at hq
    rw [fA_some, fA_some, v1, z1, fA_some, q1, ← fab_num q2] at hq
    rw [fab_num q2] at hq
    unfold fab at hq
    split at hq
    · cases hq
    · simpa using hq
  subst ep eq
  have P : Flo.Ab (Flo.W p - Flo.W a) (166 * (Flo.u * S)) := (((p3.add (x3.sub y3)).add g1).eq (by grind)).mono (by grind)
  have Q : Flo.Ab (Flo.W q - Flo.W b) (166 * (Flo.u * S)) := (((q3.add (v3.add z3)).add g2).eq (by grind)).mono (by grind)
  obtain ⟨d1, i1, i2, i3, i4, i5, i6⟩ := rest_ok p a p2 na hp64 S 166 (by grind) (by grind) P hS201 het hS0
  obtain ⟨d2, j1, j2, j3, j4, j5, j6⟩ := rest_ok q b q2 nb hq64 S 166 (by grind) (by grind) Q hS201 het hS0
  obtain ⟨s, r1, r2, r3⟩ := Flo.d_add (labs d1) (labs d2) i4 j4 (334 * (Flo.u * S)) ⟨by grind, by grind⟩ (by grind)
  refine ⟨d1, d2, s, i1, j1, r1, r2, ?_⟩
  rw [← hS]
  unfold Flo.Ab at r3
  grind

/-- THE LAW's TEST OF THE QUOTIENT. -/
theorem small_ok (a b c d e f p q k : Nat) (w1 w2 w3 w4 : World) (h1 : Moderate a b) (h2 : Moderate c d) (hdiv : divD a b c d = some (e, f))
    (hp : fab .f64 p = mulRe (fab .f64 e) (fab .f64 f) (fab .f64 c) (fab .f64 d)) (hq : fab .f64 q = mulIm (fab .f64 e) (fab .f64 f) (fab .f64 c) (fab .f64 d)) (hp64 : p < 2 ^ 64) (hq64 : q < 2 ^ 64)
    (hk : Flo.Nm k) (hk44 : Flo.W k = Flo.pw (-((44 : Nat) : Int))) :
    (FloatKind.f64.format.order (fres w3 .add .f64 (labs (fres w1 .sub .f64 p a)) (labs (fres w2 .sub .f64 q b))) (fres w4 .mul .f64 (szd a b) k) == some .lt ||
      FloatKind.f64.format.order (fres w3 .add .f64 (labs (fres w1 .sub .f64 p a)) (labs (fres w2 .sub .f64 q b))) (fres w4 .mul .f64 (szd a b) k) == some .eq) = true := by
  obtain ⟨d1, d2, s, i1, j1, r1, r2, hhigh⟩ := diff_ok a b c d e f p q h1 h2 hdiv hp hq hp64 hq64
  obtain ⟨ax, bx, fa, fb, s1, s2, nla, nlb⟩ := h1
  have na := Nm_of_fin fa
  have nb := Nm_of_fin fb
  have u0 := Flo.u_pos
  have u1 := Flo.u_le
  have p201 := Flo.pw_pos (-201)
  generalize hS : Flo.W (labs a) + Flo.W (labs b) = S at *
  have hS0 : 0 ≤ S := by grind
  have huS0 := Rat.mul_nonneg (Rat.le_of_lt u0) hS0
  have huS : Flo.u * S ≤ S / 1048576 := by
    have := Rat.mul_le_mul_of_nonneg_right u1 hS0; grind
  have huuS : Flo.u * (Flo.u * S) ≤ (Flo.u * S) / 1048576 := by
    have := Rat.mul_le_mul_of_nonneg_right u1 huS0; grind
  have het : Flo.et ≤ Flo.u * (Flo.u * S) := by
    have k1 := Rat.mul_le_mul_of_nonneg_left s1 (Rat.le_of_lt u0)
    have k3 := Rat.mul_le_mul_of_nonneg_left k1 (Rat.le_of_lt u0)
    rw [show Flo.u = Flo.pw (-53) from rfl, ← Flo.pw_add, ← Flo.pw_add] at k3
    have k2 : Flo.pw (-1074) ≤ Flo.pw (-53 + (-53 + -201)) := Flo.pw_le (by omega)
    unfold Flo.et; rw [show Flo.u = Flo.pw (-53) from rfl]; grind
  have hbig : 32 * Flo.pw 201 < Flo.pw 1023 := by
    have e1 : Flo.pw 206 = 32 * Flo.pw 201 := by rw [show (206 : Int) = 5 + 201 from rfl, Flo.pw_add, show Flo.pw 5 = 32 from Flo.pw_nat 5]
    have e2 : Flo.pw 206 < Flo.pw 1023 := Flo.pw_lt (by omega)
    grind
  have et0 := Flo.et_pos
  -- the bound
  have hsz := szd_eq a b ax bx na nb
  obtain ⟨sz, o1, o2, o3⟩ := Flo.d_add (labs a) (labs b) nla nlb S ⟨by rw [hS]; grind, by rw [hS]; exact Rat.le_refl⟩ (by grind)
  rw [hsz] at o1
  simp only [Option.some.injEq] at o1
  rw [o1] at *
  rw [hS] at o3
  have e44 : Flo.W k = 512 * Flo.u := by
    rw [hk44, show (-((44 : Nat) : Int)) = 9 + -53 from rfl, Flo.pw_add, show Flo.pw 9 = 512 from Flo.pw_nat 9]; rfl
  have hkA : Flo.Ab (Flo.W k) (512 * Flo.u) := by rw [e44]; unfold Flo.Ab; grind
  have hszA : Flo.Ab (Flo.W sz) (2 * S) := ((o3.add (show Flo.Ab S S from ⟨by grind, by grind⟩)).eq (show Flo.W sz - S + S = Flo.W sz by grind)).mono (by grind)
  obtain ⟨k', t1, t2, t3⟩ := Flo.d_mul sz k o2 hk (2 * S * (512 * Flo.u)) (hszA.mul hkA) (by grind)
  have hlow : 500 * (Flo.u * S) ≤ Flo.W k' := by
    rw [e44] at t3
    have m1 : S - 2 * (Flo.u * S) ≤ Flo.W sz := by unfold Flo.Ab at o3; grind
    have m2 := Rat.mul_le_mul_of_nonneg_right m1 (show (0 : Rat) ≤ 512 * Flo.u by grind)
    unfold Flo.Ab at t3
    grind
  have fr1 : fres w1 .sub .f64 p a = d1 := by unfold fres; rw [i1]
  have fr2 : fres w2 .sub .f64 q b = d2 := by unfold fres; rw [j1]
  have fr3 : fres w3 .add .f64 (labs d1) (labs d2) = s := by unfold fres; rw [r1]
  have fr4 : fres w4 .mul .f64 sz k = k' := by unfold fres; rw [t1]
  rw [fr1, fr2, fr3, fr4, show FloatKind.f64.format = Ieee.double from rfl, Bool.or_eq_true, beq_iff_eq, beq_iff_eq]
  have o := Flo.order_num Ieee.double s k' r2 t2
  rw [o.1, o.2.1]
  show Flo.W s < Flo.W k' ∨ Flo.W s = Flo.W k'
  have : Flo.W s ≤ Flo.W k' := by grind
  grind

end Go.Proofs.YtiakcibeobbonaaGreat
