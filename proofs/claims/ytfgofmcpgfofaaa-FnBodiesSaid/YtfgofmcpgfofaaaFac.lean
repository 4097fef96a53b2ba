/- Factors that are a byte, divided by 255: what the kernel finds of all of them.
   Conditions: none beyond those that each statement names. -/
import Derived.Test.YtfgofmcpgfofaaaStep
namespace Go.Proofs.Ytfgofmcpgfofaaa
open Go

/-! ### the factors -/
theorem fac_zero : Sm 0 ∧ S 0 = 0 := by
  have h : Ieee.single.read 0 = .number false 0 (-149) := by decide
  exact ⟨⟨_, _, _, h⟩, by rw [show S 0 = _ from Flo.V_eq h]; exact Flo.val_zero _ _⟩
def facB (z : Nat) : Nat := opB .quo .f32 (floatOfInt .f32 (z : Int)) 1132396544
def facOk (z : Nat) : Bool := (floatBits .quo .f32 (floatOfInt .f32 (z : Int)) 1132396544).isSome && fin .f32 (facB z) &&
  (FloatKind.f32.format.order (facB z) 0 == some .gt || FloatKind.f32.format.order (facB z) 0 == some .eq) && (FloatKind.f32.format.order (facB z) 1065353216 == some .lt || FloatKind.f32.format.order (facB z) 1065353216 == some .eq)
set_option maxRecDepth 100000 in
theorem fac_all : ((List.range 256).all facOk) = true := by decide +kernel
theorem fac_ok (z : Nat) (hz : z ≤ 255) : Calm .quo .f32 (floatOfInt .f32 (z : Int)) 1132396544 ∧ Sm (facB z) ∧ 0 ≤ S (facB z) ∧ S (facB z) ≤ 1 := by
  have h := fac_all
  rw [List.all_eq_true] at h
  have h := h z (List.mem_range.2 (by omega))
  unfold facOk at h
  simp only [Bool.and_eq_true] at h
  obtain ⟨⟨⟨h1, h2⟩, h3⟩, h4⟩ := h
  obtain ⟨r, hr⟩ := Option.isSome_iff_exists.1 h1
  have sm := Sm_of h2
  have n1 : Sm 1065353216 ∧ S 1065353216 = 1 := by
    have h : Ieee.single.read 1065353216 = .number false 8388608 (-23) := by decide
    refine ⟨⟨_, _, _, h⟩, ?_⟩
    rw [show S 1065353216 = _ from Flo.V_eq h]
    unfold Flo.val
    have := Flo.pw_neg_mul 23
    rw [show Flo.pw 23 = 8388608 from Flo.pw_nat 23] at this
    simp only [Bool.false_eq_true, if_false]
    have e2 : ((8388608 : Nat) : Rat) = 8388608 := rfl
    rw [e2]; grind
  have o0 := Flo.order_num Ieee.single (facB z) 0 sm fac_zero.1
  have o1 := Flo.order_num Ieee.single (facB z) 1065353216 sm n1.1
  have z0 : Flo.V Ieee.single 0 = 0 := fac_zero.2
  have z1 : Flo.V Ieee.single 1065353216 = 1 := n1.2
  rw [show FloatKind.f32.format = Ieee.single from rfl, Bool.or_eq_true, beq_iff_eq, beq_iff_eq, o0.2.2, o0.2.1, z0] at h3
  rw [show FloatKind.f32.format = Ieee.single from rfl, Bool.or_eq_true, beq_iff_eq, beq_iff_eq, o1.1, o1.2.1, z1] at h4
  have h3' : 0 < S (facB z) ∨ S (facB z) = 0 := h3
  have h4' : S (facB z) < 1 ∨ S (facB z) = 1 := h4
  exact ⟨(Calm.of hr).1, sm, by grind, by grind⟩

end Go.Proofs.Ytfgofmcpgfofaaa
