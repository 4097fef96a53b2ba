/- Laws of the walk for operations on floats and complex numbers that may have a NaN as their result: the result's bits as a function of the world and the operands. No program stands in it.
   Conditions: none beyond those that each statement names. -/
import Derived.WalkKit
import Derived.WalkLawsBesides
import Derived.Deep.Draws
import Derived.Deep.QuietTactic
import Derived.BigQuiet
import Derived.Laws.FloatArith
import Derived.Laws.ComplexQuo
import Derived.Lib.Hide
namespace Go.Proofs.YtjmignhcfmdcaaaDoor
set_option linter.unusedSimpArgs false
set_option linter.unusedVariables false
open Go

/-- how many answers of the tape an operation on floats takes: one where it has no number as its result -/
def fdr (op : BinOp) (k : FloatKind) (x y : Nat) : Nat := if (floatBits op k x y).isSome then 0 else 1
/-- the bits of its result -/
def fres (w : World) (op : BinOp) (k : FloatKind) (x y : Nat) : Nat :=
  match floatBits op k x y with
  | some r => r
  | none => (Question.nanBits k x y).cut (w.tape w.drawn (.nanBits k x y))

theorem run_fl {P : Program} (w : World) (op : BinOp) (hop : op = .add ∨ op = .sub ∨ op = .mul ∨ op = .quo) (k : FloatKind) (x y : Nat) :
    (Op.floatArith op k x y).run P w = .ok (.float k (fres w op k x y)) (w.drewN (fdr op k x y)) := by
  unfold fres fdr floatBits Op.floatArith
  rcases hop with rfl | rfl | rfl | rfl
  · simp only [pure_bind]; cases h : k.format.add x y <;> simp [Question.forced, World.drewN] <;> rfl
  · simp only [pure_bind]; cases h : k.format.sub x y <;> simp [Question.forced, World.drewN] <;> rfl
  · simp only [pure_bind]; cases h : k.format.mul x y <;> simp [Question.forced, World.drewN] <;> rfl
  · simp only [pure_bind]; cases h : k.format.div x y <;> simp [Question.forced, World.drewN] <;> rfl

section
variable {P : Program} (w : World) (t : TypeId) (k : FloatKind) (x y : Nat)
@[go_sem] theorem run_fl_add : (binOp .add t (.float k x) (.float k y)).run P w = .ok (.float k (fres w .add k x y)) (w.drewN (fdr .add k x y)) := by
  simp only [binOp, ne_eq, not_true, if_false]; exact run_fl w .add (.inl rfl) k x y
@[go_sem] theorem run_fl_sub : (binOp .sub t (.float k x) (.float k y)).run P w = .ok (.float k (fres w .sub k x y)) (w.drewN (fdr .sub k x y)) := by
  simp only [binOp, ne_eq, not_true, if_false]; exact run_fl w .sub (.inr (.inl rfl)) k x y
@[go_sem] theorem run_fl_mul : (binOp .mul t (.float k x) (.float k y)).run P w = .ok (.float k (fres w .mul k x y)) (w.drewN (fdr .mul k x y)) := by
  simp only [binOp, ne_eq, not_true, if_false]; exact run_fl w .mul (.inr (.inr (.inl rfl))) k x y
@[go_sem] theorem run_fl_quo : (binOp .quo t (.float k x) (.float k y)).run P w = .ok (.float k (fres w .quo k x y)) (w.drewN (fdr .quo k x y)) := by
  simp only [binOp, ne_eq, not_true, if_false]; exact run_fl w .quo (.inr (.inr (.inr rfl))) k x y
@[go_sem] theorem unary_neg_fl : Op.unary .neg (.float k x) = pure (.float k (Op.negFloat k x)) := rfl
@[go_sem] theorem unary_neg_cx : Op.unary .neg (.complex k x y) = pure (.complex k (Op.negFloat k x) (Op.negFloat k y)) := rfl
end

/-! ### a float without the bits of a NaN -/
/-- what a float is when the bits of NaNs count for nothing -/
def fab (k : FloatKind) (b : Nat) : Option Nat := if (k.decode b).isNaN then none else some b

theorem nan_key : ∀ (f : Ieee.Format) (n r : Nat), f.binade ≤ f.infRung → (r % f.signWeight) > f.infRung → (f.read (n * f.signWeight + r)).isNaN = true := by
  intro f n r hb h
  have e : (n * f.signWeight + r) % f.signWeight = r % f.signWeight := by
    rw [Nat.add_comm, Nat.add_mul_mod_self_right]
  unfold Ieee.Format.read
  simp only [e]
  rw [if_neg (by omega), if_neg (by omega), if_neg (by omega)]
  rfl
theorem nan_cut (k : FloatKind) (x y t : Nat) : (k.decode ((Question.nanBits k x y).cut t)).isNaN = true := by
  cases k
  · have := nan_key Ieee.single (t % 2) (0x7f800000 + 1 + (t / 2) % (2 ^ 23 - 1)) (by decide) (by
      have h : (t / 2) % (2 ^ 23 - 1) < 2 ^ 23 - 1 := Nat.mod_lt _ (by decide)
      rw [show Ieee.single.signWeight = 2 ^ 31 from rfl, show Ieee.single.infRung = 0x7f800000 from by decide]
      rw [Nat.mod_eq_of_lt] <;> omega)
    rw [← Nat.add_assoc, ← Nat.add_assoc] at this
    exact this
  · have := nan_key Ieee.double (t % 2) (0x7ff0000000000000 + 1 + (t / 2) % (2 ^ 52 - 1)) (by decide) (by
      have h : (t / 2) % (2 ^ 52 - 1) < 2 ^ 52 - 1 := Nat.mod_lt _ (by decide)
      rw [show Ieee.double.signWeight = 2 ^ 63 from rfl, show Ieee.double.infRung = 0x7ff0000000000000 from by decide]
      rw [Nat.mod_eq_of_lt] <;> omega)
    rw [← Nat.add_assoc, ← Nat.add_assoc] at this
    exact this
theorem nan_conv (k : FloatKind) (x t : Nat) : (k.decode ((Question.nanConv k x).cut t)).isNaN = true := by
  cases k
  · have := nan_key Ieee.single (t % 2) (0x7f800000 + 1 + (t / 2) % (2 ^ 23 - 1)) (by decide) (by
      have h : (t / 2) % (2 ^ 23 - 1) < 2 ^ 23 - 1 := Nat.mod_lt _ (by decide)
      rw [show Ieee.single.signWeight = 2 ^ 31 from rfl, show Ieee.single.infRung = 0x7f800000 from by decide]
      rw [Nat.mod_eq_of_lt] <;> omega)
    rw [← Nat.add_assoc, ← Nat.add_assoc] at this
    exact this
  · have := nan_key Ieee.double (t % 2) (0x7ff0000000000000 + 1 + (t / 2) % (2 ^ 52 - 1)) (by decide) (by
      have h : (t / 2) % (2 ^ 52 - 1) < 2 ^ 52 - 1 := Nat.mod_lt _ (by decide)
      rw [show Ieee.double.signWeight = 2 ^ 63 from rfl, show Ieee.double.infRung = 0x7ff0000000000000 from by decide]
      rw [Nat.mod_eq_of_lt] <;> omega)
    rw [← Nat.add_assoc, ← Nat.add_assoc] at this
    exact this

/-- an operation on floats without the bits of NaNs -/
def fA (op : BinOp) (k : FloatKind) (x y : Option Nat) : Option Nat :=
  match x, y with
  | some a, some b => floatBits op k a b
  | _, _ => none

theorem word_not_nan (f : Ieee.Format) (neg : Bool) (r : Nat) (h : r ≤ f.infRung) : (f.read (f.word neg r)).isNaN = false := by
  have h1 := f.infRung_lt
  have e : f.word neg r % f.signWeight = r := by
    unfold Ieee.Format.word; split
    · rw [Nat.add_mod_left]; exact Nat.mod_eq_of_lt (by omega)
    · exact Nat.mod_eq_of_lt (by omega)
  unfold Ieee.Format.read
  simp only [e]
  split
  · rfl
  · split
    · rfl
    · rw [if_pos (by omega)]; rfl

theorem write_not_nan (f : Ieee.Format) (d : Ieee.Datum) (h : d.isNaN = false) : (f.read (f.write d)).isNaN = false := by
  cases d with
  | number neg mag place =>
    show (f.read (f.nearest neg mag place)).isNaN = false
    unfold Ieee.Format.nearest
    split
    · exact word_not_nan f neg 0 (Nat.zero_le _)
    · exact word_not_nan f neg _ (Nat.min_le_right _ _)
  | infinity neg => exact word_not_nan f neg _ (Nat.le_refl _)
  | nan neg fr => simp [Ieee.Datum.isNaN] at h

theorem sum_not_nan {a b d : Ieee.Datum} (h : a.sum b = some d) : d.isNaN = false ∧ a.isNaN = false ∧ b.isNaN = false := by
  cases a <;> cases b <;> simp only [Ieee.Datum.sum] at h <;> (try split at h) <;> cases h <;> exact ⟨rfl, rfl, rfl⟩
theorem product_not_nan {a b d : Ieee.Datum} (h : a.product b = some d) : d.isNaN = false ∧ a.isNaN = false ∧ b.isNaN = false := by
  cases a <;> cases b <;> simp only [Ieee.Datum.product] at h <;> (try split at h) <;> cases h <;> exact ⟨rfl, rfl, rfl⟩
theorem quotient_not_nan {n : Nat} {a b d : Ieee.Datum} (h : a.quotient n b = some d) : d.isNaN = false ∧ a.isNaN = false ∧ b.isNaN = false := by
  cases a <;> cases b <;> simp only [Ieee.Datum.quotient] at h <;> (try split at h) <;> (try split at h) <;> cases h <;> exact ⟨rfl, rfl, rfl⟩
theorem opposite_nan (a : Ieee.Datum) : a.opposite.isNaN = a.isNaN := by cases a <;> rfl

theorem floatBits_not_nan {op : BinOp} {k : FloatKind} {x y r : Nat} (h : floatBits op k x y = some r) : (k.decode r).isNaN = false ∧ (k.decode x).isNaN = false ∧ (k.decode y).isNaN = false := by
  unfold floatBits at h
  unfold FloatKind.decode
  split at h
  · unfold Ieee.Format.add at h
    obtain ⟨d, h1, rfl⟩ := Option.map_eq_some_iff.1 h
    have := sum_not_nan h1
    exact ⟨write_not_nan _ _ this.1, this.2⟩
  · unfold Ieee.Format.sub at h
    obtain ⟨d, h1, rfl⟩ := Option.map_eq_some_iff.1 h
    have := sum_not_nan h1
    rw [opposite_nan] at this
    exact ⟨write_not_nan _ _ this.1, this.2⟩
  · unfold Ieee.Format.mul at h
    obtain ⟨d, h1, rfl⟩ := Option.map_eq_some_iff.1 h
    have := product_not_nan h1
    exact ⟨write_not_nan _ _ this.1, this.2⟩
  · unfold Ieee.Format.div at h
    obtain ⟨d, h1, rfl⟩ := Option.map_eq_some_iff.1 h
    have := quotient_not_nan h1
    exact ⟨write_not_nan _ _ this.1, this.2⟩
  · cases h

theorem fab_some {k : FloatKind} {b : Nat} (h : (k.decode b).isNaN = false) : fab k b = some b := by unfold fab; rw [h]; rfl
theorem fab_none {k : FloatKind} {b : Nat} (h : (k.decode b).isNaN = true) : fab k b = none := by unfold fab; rw [h]; rfl

@[simp] theorem fab_fres (w : World) (op : BinOp) (k : FloatKind) (x y : Nat) : fab k (fres w op k x y) = fA op k (fab k x) (fab k y) := by
  unfold fres
  cases h : floatBits op k x y with
  | some r =>
    obtain ⟨h1, h2, h3⟩ := floatBits_not_nan h
    simp only
    rw [fab_some h1, fab_some h2, fab_some h3]
    unfold fA; exact h.symm
  | none =>
    simp only
    rw [fab_none (nan_cut k x y _)]
    unfold fA fab
    split
    · rename_i a b ha hb
      split at ha <;> cases ha
      split at hb <;> cases hb
      exact h.symm
    · rfl

theorem fres_wf (w : World) (op : BinOp) (k : FloatKind) (x y : Nat) : fres w op k x y < 2 ^ k.format.width := by
  unfold fres
  cases h : floatBits op k x y with
  | some r =>
    have := floatBits_wf h
    simp only
    cases k <;> simpa [Lit.wf, FloatKind.format, Ieee.Format.width, Ieee.single, Ieee.double] using this
  | none =>
    simp only
    cases k
    · show (w.tape w.drawn (Question.nanBits .f32 x y) % 2) * 2 ^ 31 + 0x7f800000 + 1 + (w.tape w.drawn (Question.nanBits .f32 x y) / 2) % (2 ^ 23 - 1) < 2 ^ 32
      have h1 := Nat.mod_lt (w.tape w.drawn (Question.nanBits .f32 x y)) (y := 2) (by decide)
      have h2 := Nat.mod_lt (w.tape w.drawn (Question.nanBits .f32 x y) / 2) (y := 2 ^ 23 - 1) (by decide)
      omega
    · show (w.tape w.drawn (Question.nanBits .f64 x y) % 2) * 2 ^ 63 + 0x7ff0000000000000 + 1 + (w.tape w.drawn (Question.nanBits .f64 x y) / 2) % (2 ^ 52 - 1) < 2 ^ 64
      have h1 := Nat.mod_lt (w.tape w.drawn (Question.nanBits .f64 x y)) (y := 2) (by decide)
      have h2 := Nat.mod_lt (w.tape w.drawn (Question.nanBits .f64 x y) / 2) (y := 2 ^ 52 - 1) (by decide)
      omega

/-- is it a number? -/
def fin (k : FloatKind) (b : Nat) : Bool := match k.decode b with | .number .. => true | _ => false
def finO (k : FloatKind) (o : Option Nat) : Bool := match o with | some b => fin k b | none => false
theorem finO_fab (k : FloatKind) (b : Nat) : finO k (fab k b) = fin k b := by
  unfold finO fab fin
  cases h : k.decode b <;> simp [Ieee.Datum.isNaN, h]

theorem finO_of_some {k : FloatKind} {b : Nat} (h : fin k b = true) : (k.decode b).isNaN = false ∧ (k.decode b).isInfinity = false := by
  unfold fin at h; cases hd : k.decode b <;> simp [hd] at h <;> exact ⟨rfl, rfl⟩

/-! ### complex quotients of finite numbers -/
/-- the quotient's parts, step by step, without the bits of NaNs -/
def qA (a b c d : Nat) : Option Nat × Option Nat :=
  if absGe c d then
    let r := fA .quo .f64 (some d) (some c)
    let m := fA .add .f64 (some c) (fA .mul .f64 r (some d))
    (fA .quo .f64 (fA .add .f64 (some a) (fA .mul .f64 (some b) r)) m, fA .quo .f64 (fA .sub .f64 (some b) (fA .mul .f64 (some a) r)) m)
  else
    let r := fA .quo .f64 (some c) (some d)
    let m := fA .add .f64 (some d) (fA .mul .f64 r (some c))
    (fA .quo .f64 (fA .add .f64 (fA .mul .f64 (some a) r) (some b)) m, fA .quo .f64 (fA .sub .f64 (fA .mul .f64 (some b) r) (some a)) m)

section
variable {P : Program}
theorem run_cfl (w : World) (op : BinOp) (hop : op = .add ∨ op = .sub ∨ op = .mul ∨ op = .quo) (x y : Nat) :
    (Op.Complex.arith op .f64 x y).run P w = .ok (fres w op .f64 x y) (w.drewN (fdr op .f64 x y)) := by
  simp only [Op.Complex.arith, Sem.run_bind, run_fl w op hop .f64 x y, Result.andThen_ok, Sem.run_pure]
theorem run_cadd (w : World) (x y : Nat) : (Op.Complex.add x y).run P w = .ok (fres w .add .f64 x y) (w.drewN (fdr .add .f64 x y)) := run_cfl w .add (.inl rfl) x y
theorem run_csub (w : World) (x y : Nat) : (Op.Complex.sub x y).run P w = .ok (fres w .sub .f64 x y) (w.drewN (fdr .sub .f64 x y)) := run_cfl w .sub (.inr (.inl rfl)) x y
theorem run_cmul (w : World) (x y : Nat) : (Op.Complex.mul x y).run P w = .ok (fres w .mul .f64 x y) (w.drewN (fdr .mul .f64 x y)) := run_cfl w .mul (.inr (.inr (.inl rfl))) x y
theorem run_cquo (w : World) (x y : Nat) : (Op.Complex.quo x y).run P w = .ok (fres w .quo .f64 x y) (w.drewN (fdr .quo .f64 x y)) := run_cfl w .quo (.inr (.inr (.inr rfl))) x y
theorem run_ceql (w : World) (x : Nat) : (Op.Complex.cmp .eql .f64 x 0).run P w = .ok (FloatKind.f64.format.order x 0 == some .eq) w := by
  simp [Op.Complex.cmp, Op.floatCmp, asBool]

theorem run_quotient (a b c d : Nat) (w : World) (ha : fin .f64 a = true) (hb : fin .f64 b = true) (hc : fin .f64 c = true) (hd : fin .f64 d = true)
    (hz : ((FloatKind.f64.format.order c 0 == some .eq) && (FloatKind.f64.format.order d 0 == some .eq)) = false) :
    ∃ e f n, (Op.Complex.quotient a b c d).run P w = .ok (e, f) (w.drewN n) ∧ fab .f64 e = (qA a b c d).1 ∧ fab .f64 f = (qA a b c d).2 ∧ e < 2 ^ 64 ∧ f < 2 ^ 64 := by
  have fa : fab .f64 a = some a := fab_some (finO_of_some ha).1
  have fb : fab .f64 b = some b := fab_some (finO_of_some hb).1
  have fc : fab .f64 c = some c := fab_some (finO_of_some hc).1
  have fd : fab .f64 d = some d := fab_some (finO_of_some hd).1
  have ia : Op.Complex.isInf a = false := (finO_of_some ha).2
  have ib : Op.Complex.isInf b = false := (finO_of_some hb).2
  have ic : Op.Complex.isInf c = false := (finO_of_some hc).2
  have id' : Op.Complex.isInf d = false := (finO_of_some hd).2
  cases hge : absGe c d with
  | true =>
    unfold Op.Complex.quotient qA
    simp only [Sem.run_bind, run_ccmp_geq, hge, Result.andThen_ok, if_true, run_cadd, run_csub, run_cmul, run_cquo, Sem.run_pure, run_ceql, hz, ia, ib, ic, id', Bool.false_and, Bool.or_self, Bool.false_eq_true, if_false, ite_self, World.drewN_drewN]
    refine ⟨_, _, _, rfl, ?_, ?_, fres_wf _ _ _ _ _, fres_wf _ _ _ _ _⟩ <;> simp only [fab_fres, fa, fb, fc, fd]
  | false =>
    unfold Op.Complex.quotient qA
    simp only [Sem.run_bind, run_ccmp_geq, hge, Result.andThen_ok, if_true, run_cadd, run_csub, run_cmul, run_cquo, Sem.run_pure, run_ceql, hz, ia, ib, ic, id', Bool.false_and, Bool.or_self, Bool.false_eq_true, if_false, ite_self, World.drewN_drewN]
    refine ⟨_, _, _, rfl, ?_, ?_, fres_wf _ _ _ _ _, fres_wf _ _ _ _ _⟩ <;> simp only [fab_fres, fa, fb, fc, fd]

/-- '/' on complex128, of finite numbers, the divisor not 0 -/
theorem run_cquot (t : TypeId) (a b c d : Nat) (w : World) (ha : fin .f64 a = true) (hb : fin .f64 b = true) (hc : fin .f64 c = true) (hd : fin .f64 d = true)
    (hz : ((FloatKind.f64.format.order c 0 == some .eq) && (FloatKind.f64.format.order d 0 == some .eq)) = false) :
    ∃ e f n, (binOp .quo t (.complex .f64 a b) (.complex .f64 c d)).run P w = .ok (.complex .f64 e f) (w.drewN n) ∧ fab .f64 e = (qA a b c d).1 ∧ fab .f64 f = (qA a b c d).2 ∧ e < 2 ^ 64 ∧ f < 2 ^ 64 := by
  obtain ⟨e, f, n, h1, h2⟩ := run_quotient (P := P) a b c d w ha hb hc hd hz
  refine ⟨e, f, n, ?_, h2⟩
  simp [binOp, Op.complexOp, Op.Complex.conv, h1]
end

/-- what DivideDouble says: the quotient where both numbers are finite, the divisor is not 0 and the quotient is finite -/
def divD (a b c d : Nat) : Option (Nat × Nat) :=
  if fin .f64 a && fin .f64 b && (fin .f64 c && fin .f64 d) && !((FloatKind.f64.format.order c 0 == some .eq) && (FloatKind.f64.format.order d 0 == some .eq)) then
    match qA a b c d with
    | (some e, some f) => if fin .f64 e && fin .f64 f then some (e, f) else none
    | _ => none
  else none
/-- its results -/
def divV (o : Option (Nat × Nat)) : Value :=
  match o with
  | some (e, f) => .tuple #[.complex .f64 e f, .bool true]
  | none => .tuple #[.complex .f64 0 0, .bool false]

theorem divD_of (a b c d e f : Nat) (h : (fin .f64 a && fin .f64 b && (fin .f64 c && fin .f64 d) && !((FloatKind.f64.format.order c 0 == some .eq) && (FloatKind.f64.format.order d 0 == some .eq))) = true)
    (h1 : fab .f64 e = (qA a b c d).1) (h2 : fab .f64 f = (qA a b c d).2) :
    divD a b c d = if fin .f64 e && fin .f64 f then some (e, f) else none := by
  unfold divD
  rw [if_pos h]
  rw [show qA a b c d = (fab .f64 e, fab .f64 f) from by rw [h1, h2]]
  unfold fab fin
  cases he : FloatKind.f64.decode e <;> cases hf : FloatKind.f64.decode f <;> simp [Ieee.Datum.isNaN, he, hf]

/-! ### sums and differences of complex numbers -/
theorem run_carith {P : Program} (w : World) (op : BinOp) (hop : op = .add ∨ op = .sub ∨ op = .mul ∨ op = .quo) (k : FloatKind) (x y : Nat) :
    (Op.Complex.arith op k x y).run P w = .ok (fres w op k x y) (w.drewN (fdr op k x y)) := by
  simp only [Op.Complex.arith, Sem.run_bind, run_fl w op hop k x y, Result.andThen_ok, Sem.run_pure]
@[go_sem] theorem run_cx_add {P : Program} (w : World) (t : TypeId) (k : FloatKind) (a b c d : Nat) : (binOp .add t (.complex k a b) (.complex k c d)).run P w =
    .ok (.complex k (fres w .add k a c) (fres (w.drewN (fdr .add k a c)) .add k b d)) (w.drewN (fdr .add k a c + fdr .add k b d)) := by
  simp [binOp, Op.complexOp, run_carith _ .add (.inl rfl)]
@[go_sem] theorem run_cx_sub {P : Program} (w : World) (t : TypeId) (k : FloatKind) (a b c d : Nat) : (binOp .sub t (.complex k a b) (.complex k c d)).run P w =
    .ok (.complex k (fres w .sub k a c) (fres (w.drewN (fdr .sub k a c)) .sub k b d)) (w.drewN (fdr .sub k a c + fdr .sub k b d)) := by
  simp [binOp, Op.complexOp, run_carith _ .sub (.inr (.inl rfl))]

/-! ### conversions between the widths -/
/-- the bits of a converted float: a finite number too great for the narrower kind has the bits that the tape says -/
def fcv (w : World) (s : FloatKind) (b : Nat) (k : FloatKind) : Nat :=
  if s = k then b else
  match s.decode b with
  | .nan _ _ => (Question.nanConv k b).cut (w.tape w.drawn (.nanConv k b))
  | .infinity g => k.encode (.infinity g)
  | .number g m e => if (k.decode (k.encode (.number g m e))).isInfinity then (Question.floatToFloat b).cut (w.tape w.drawn (.floatToFloat b)) else k.encode (.number g m e)
def fcd (s : FloatKind) (b : Nat) (k : FloatKind) : Nat :=
  if s = k then 0 else
  match s.decode b with
  | .nan _ _ => 1
  | .infinity _ => 0
  | .number g m e => if (k.decode (k.encode (.number g m e))).isInfinity then 1 else 0

theorem run_cv {P : Program} (w : World) (s : FloatKind) (b : Nat) (k : FloatKind) : (Conv.floatToFloat s b k).run P w = .ok (.float k (fcv w s b k)) (w.drewN (fcd s b k)) := by
  unfold fcv fcd Conv.floatToFloat
  by_cases h : s = k
  · simp only [if_pos h, Sem.run_pure]; rfl
  · simp only [if_neg h]
    cases hd : s.decode b with
    | nan => simp [Question.forced, World.drewN]
    | infinity g => simp only [Sem.run_pure]; rfl
    | number g m e =>
      by_cases hi : (k.decode (k.encode (.number g m e))).isInfinity = true
      · simp [hi, Question.forced, World.drewN]
      · simp only [hi, Sem.run_pure, if_false, Bool.false_eq_true]; rfl
@[go_sem] theorem run_convert_fl {P : Program} (w : World) (src dst : TypeId) (s k : FloatKind) (b : Nat) (hs : (P.underlying src).isSome = true) (hd : P.underlying dst = some (.float k)) :
    (convert src dst (.float s b)).run P w = .ok (.float k (fcv w s b k)) (w.drewN (fcd s b k)) := by
  obtain ⟨u, hs'⟩ := Option.isSome_iff_exists.1 hs
  cases u <;> simp [convert, run_underlying hs', run_underlying hd, run_cv]
@[go_sem] theorem run_convert_cx {P : Program} (w : World) (src dst : TypeId) (s k : FloatKind) (a b : Nat) (hs : (P.underlying src).isSome = true) (hd : P.underlying dst = some (.complex k)) :
    (convert src dst (.complex s a b)).run P w = .ok (.complex k (fcv w s a k) (fcv (w.drewN (fcd s a k)) s b k)) (w.drewN (fcd s a k + fcd s b k)) := by
  obtain ⟨u, hs'⟩ := Option.isSome_iff_exists.1 hs
  cases u <;> simp [convert, run_underlying hs', run_underlying hd, Conv.complexToComplex, run_cv]

theorem fcv_wf (w : World) (s : FloatKind) (b : Nat) (k : FloatKind) (hb : b < 2 ^ s.format.width) : fcv w s b k < 2 ^ k.format.width := by
  unfold fcv
  split
  · rename_i h; subst h; exact hb
  · split
    · cases k
      · show (w.tape w.drawn _ % 2) * 2 ^ 31 + 0x7f800000 + 1 + (w.tape w.drawn _ / 2) % (2 ^ 23 - 1) < 2 ^ 32
        have h1 := Nat.mod_lt (w.tape w.drawn (Question.nanConv .f32 b)) (y := 2) (by decide)
        have h2 := Nat.mod_lt (w.tape w.drawn (Question.nanConv .f32 b) / 2) (y := 2 ^ 23 - 1) (by decide)
        omega
      · show (w.tape w.drawn _ % 2) * 2 ^ 63 + 0x7ff0000000000000 + 1 + (w.tape w.drawn _ / 2) % (2 ^ 52 - 1) < 2 ^ 64
        have h1 := Nat.mod_lt (w.tape w.drawn (Question.nanConv .f64 b)) (y := 2) (by decide)
        have h2 := Nat.mod_lt (w.tape w.drawn (Question.nanConv .f64 b) / 2) (y := 2 ^ 52 - 1) (by decide)
        omega
    · exact k.format.write_lt _
    · split
      · have h1 := Nat.mod_lt (w.tape w.drawn (Question.floatToFloat b)) (y := 2 ^ 32) (by decide)
        cases k
        · exact h1
        · exact Nat.lt_trans h1 (by decide)
      · exact k.format.write_lt _

end Go.Proofs.YtjmignhcfmdcaaaDoor
