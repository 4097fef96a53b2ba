/- The walks of MakeStart, of the model's MultiplyDouble and RingMode, of crossDifference and FitPair.
   Conditions: those that each statement names. -/
import Derived.Test.YtlhhcchncobmhaaPairT
namespace Go.Proofs.Ytlhhcchncobmhaa
set_option linter.unusedSimpArgs false
set_option linter.unusedVariables false
open Go Go.RowKit

theorem six_run (i : Int) (h : i.natAbs < 9007199254740992) : (∀ w, fres w .quo .f64 (floatOfInt .f64 i) 4625196817309499392 = sixB i) ∧ fdr .quo .f64 (floatOfInt .f64 i) 4625196817309499392 = 0 := by
  have q := (sixB_ok i h).1
  exact ⟨fun w => by unfold fres; rw [q], by unfold fdr; rw [q]; rfl⟩
theorem sixB_lt (i : Int) (h : i.natAbs < 9007199254740992) : sixB i < 2 ^ 64 := floatBits_wf' (sixB_ok i h).1
theorem six_eq (i j : Int) (hi : i.natAbs < 9007199254740992) (hj : j.natAbs < 9007199254740992) : (FloatKind.f64.format.order (sixB i) (sixB j) == some .eq) = (i == j) := by
  have a := (sixB_ok i hi).2
  have b := (sixB_ok j hj).2
  have o := Flo.order_num Ieee.double _ _ a.1 b.1
  rw [show FloatKind.f64.format = Ieee.double from rfl]
  have p := Flo.pw_pos (-4)
  by_cases h : i = j
  · subst h
    rw [show (i == i) = true from by simp, beq_iff_eq, o.2.1]
  · rw [show (i == j) = false from by simpa using h]
    cases hq : (Ieee.double.order (sixB i) (sixB j) == some .eq) with
    | false => rfl
    | true =>
      exfalso
      rw [beq_iff_eq, o.2.1] at hq
      have a2 := a.2
      have b2 := b.2
      unfold Flo.W at a2 b2
      rw [a2, b2] at hq
      have h0 : ((i : Rat) - (j : Rat)) * Flo.pw (-4) = 0 := by grind
      rcases Rat.mul_eq_zero.1 h0 with h1 | h1
      · apply h
        have : (i : Rat) = (j : Rat) := by grind
        exact_mod_cast this
      · grind
theorem six_zero (i : Int) (hi : i.natAbs < 9007199254740992) : (FloatKind.f64.format.order (sixB i) 0 == some .eq) = (i == 0) := by
  have a := (sixB_ok i hi).2
  have o := Flo.order_num Ieee.double _ _ a.1 zero_num.1
  rw [show FloatKind.f64.format = Ieee.double from rfl]
  have p := Flo.pw_pos (-4)
  have z := zero_num.2
  have a2 := a.2
  unfold Flo.W at a2 z
  by_cases h : i = 0
  · subst h
    rw [show ((0 : Int) == 0) = true from by simp, beq_iff_eq, o.2.1, a2, z]; grind
  · rw [show (i == 0) = false from by simpa using h]
    cases hq : (Ieee.double.order (sixB i) 0 == some .eq) with
    | false => rfl
    | true =>
      exfalso
      rw [beq_iff_eq, o.2.1, a2, z] at hq
      rcases Rat.mul_eq_zero.1 hq with h1 | h1
      · apply h
        exact_mod_cast h1
      · grind

def six (m : Int × Int) : Nat × Nat := (sixB m.1, sixB m.2)
theorem six_dy (m : Int × Int) (h : Small2 m 1000) : DyC (-4) m (six m) := ⟨(sixB_ok m.1 (by have := h.1; omega)).2, (sixB_ok m.2 (by have := h.2; omega)).2⟩

/-- a start: parts that are sixteenths from -4 to 4, not 0 -/
def StartP (w : World) (e : Ending) (w' : World) : Prop := ∃ (m : Int × Int) (z : Nat × Nat), e = .returned (.complex .f64 z.1 z.2) ∧ DyC (-4) m z ∧ Wz z ∧ Small2 m 64 ∧ m ≠ (0, 0) ∧ Below w.heap.size w w'
set_option maxRecDepth 100000 in
theorem makeStart_any (a : Option Addr) (len cap : Nat) (w : World) (hb : Bys w.heap.size a len w) :
    Calls Try.prog 24 #[.slice a len cap] w (StartP w) := by
  have Hb := Lib.hid hb
  clear hb
  go_enter Try.func24, Try.ntmps24
  go_wp2_with fail
  refine (l01New_any _ _ _ _ Hb.out).mono ?_
  rintro e w1 ⟨rfl, hat⟩
  go_wp2_with fail
  refine (below_at _ _ _ _ _ _ _ (by omega) (by omega) _ hat).mono ?_
  rintro e w2 ⟨x, x0, x1, rfl, hat2⟩
  clear hat
  obtain ⟨f1, d1⟩ := six_run (x - 64) (by omega)
  go_wp2_with fail
  refine (below_at _ _ _ _ _ _ _ (by omega) (by omega) _ hat2).mono ?_
  rintro e w3 ⟨y, y0, y1, rfl, hat3⟩
  have Hat := Lib.hid (show Below w.heap.size w w3 from hat3.below (Nat.le_refl _))
  clear hat2 hat3
  obtain ⟨f2, d2⟩ := six_run (y - 64) (by omega)
  have z1 := six_zero (x - 64) (by omega)
  have z2 := six_zero (y - 64) (by omega)
  cases hz : ((x - 64 == 0) && (y - 64 == 0)) with
  | true =>
    have hz' : (x - 64 == 0) = true ∧ (y - 64 == 0) = true := by simpa using hz
    rw [hz'.1] at z1
    rw [hz'.2] at z2
    clear hz hz'
    go_wp2_with fail
    go_ret
    refine ⟨(16, 0), (4607182418800017408, 0), rfl, ⟨⟨one_num.1, ?_⟩, ⟨zero_num.1, ?_⟩⟩, ⟨by decide, by decide⟩, ⟨by decide, by decide⟩, by decide, Hat.out⟩
    · show Flo.W 4607182418800017408 = ((16 : Int) : Rat) * Flo.pw (-4)
      have h1 : Flo.W 4607182418800017408 = 1 := by
        have := Flo.int_double 1 (by decide)
        rw [show floatOfInt .f64 1 = 4607182418800017408 from by decide +kernel] at this
        exact this.2
      have hm := Flo.pw_neg_mul 4
      rw [show Flo.pw 4 = 16 from Flo.pw_nat 4] at hm
      rw [h1]
      have : ((16 : Int) : Rat) = 16 := rfl
      rw [this]; grind
    · show Flo.W 0 = ((0 : Int) : Rat) * Flo.pw (-4)
      rw [zero_num.2]
      have : ((0 : Int) : Rat) = 0 := rfl
      rw [this]; grind
  | false =>
    have hn : ¬ ((x - 64, y - 64) : Int × Int) = (0, 0) := by
      intro e
      simp only [Prod.mk.injEq] at e
      rw [e.1, e.2] at hz
      simp at hz
    have Hn := Lib.hid hn
    clear hn
    cases hx : (x - 64 == 0) with
    | false =>
      rw [hx] at z1
      clear hz
      go_wp2_with fail
      all_goals
        go_ret
        exact ⟨(x - 64, y - 64), six (x - 64, y - 64), rfl, six_dy _ ⟨by show (x - 64).natAbs ≤ 1000; omega, by show (y - 64).natAbs ≤ 1000; omega⟩, ⟨sixB_lt _ (by show (x - 64).natAbs < _; omega), sixB_lt _ (by show (y - 64).natAbs < _; omega)⟩, ⟨by show (x - 64).natAbs ≤ 64; omega, by show (y - 64).natAbs ≤ 64; omega⟩, Hn.out, Hat.out⟩
    | true =>
      rw [hx] at z1 hz
      have hy : (y - 64 == 0) = false := by simpa using hz
      rw [hy] at z2
      clear hz
      go_wp2_with fail
      all_goals
        go_ret
        exact ⟨(x - 64, y - 64), six (x - 64, y - 64), rfl, six_dy _ ⟨by show (x - 64).natAbs ≤ 1000; omega, by show (y - 64).natAbs ≤ 1000; omega⟩, ⟨sixB_lt _ (by show (x - 64).natAbs < _; omega), sixB_lt _ (by show (y - 64).natAbs < _; omega)⟩, ⟨by show (x - 64).natAbs ≤ 64; omega, by show (y - 64).natAbs ≤ 64; omega⟩, Hn.out, Hat.out⟩

end Go.Proofs.Ytlhhcchncobmhaa
