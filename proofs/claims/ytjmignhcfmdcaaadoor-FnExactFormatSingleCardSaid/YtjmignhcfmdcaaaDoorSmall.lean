/- The walks of MakeBody, MakeSmall and of the laws' own 'at'.
   Conditions: those that each statement names. -/
import Derived.Test.YtjmignhcfmdcaaaDoorBody
import Derived.Test.YtjmignhcfmdcaaaDoorSps
namespace Go.Proofs.YtjmignhcfmdcaaaDoor
set_option linter.unusedSimpArgs false
set_option linter.unusedVariables false
open Go Go.RowKit

theorem Nw.set' {a w : World} (h : Nw a w) {p : Addr} (hp : a.heap.size ≤ p.block) (u : Value) : Nw a (w.setCell p u) := h.set hp u
theorem At.toNw {B : Nat} {w0 : World} {a : Option Addr} {len cap c : Nat} {w : World} (h : At B w0 a len cap c w) (hc : w0.heap.size ≤ c) : Nw w0 w := h.2.nw hc

/-! ### samples -/
theorem num_1000 : Sm 1148846080 ∧ S 1148846080 = 1000 := by
  have h : Ieee.single.read 1148846080 = .number false 16384000 (-14) := by decide
  refine ⟨⟨_, _, _, h⟩, ?_⟩
  rw [show S 1148846080 = _ from Flo.V_eq h]
  unfold Flo.val
  have := Flo.pw_neg_mul 14
  have e : Flo.pw 14 = 16384 := Flo.pw_nat 14
  rw [e] at this
  simp only [Bool.false_eq_true, if_false]
  have e2 : ((16384000 : Nat) : Rat) = 16384000 := rfl
  rw [e2]; grind

/-- a sample that MakeSmall draws, if its greatest one is at most K in absolute value -/
def Samp (K : Rat) (b : Nat) : Prop := Sm b ∧ Flo.Ab (S b) (K + K / 1000000 + 1 / 1000000)

theorem samp_ok (mb : Nat) (K : Rat) (hm : Sm mb) (hK : Flo.Ab (S mb) K) (hK60 : K ≤ Flo.pw 60) (z : Int) (h0 : 0 ≤ z) (h1 : z < 2001) :
    ∃ r1 r2, floatBits .mul .f32 mb (floatOfInt .f32 (z - 1000)) = some r1 ∧ floatBits .quo .f32 r1 1148846080 = some r2 ∧ Samp K r2 := by
  obtain ⟨n1, v1⟩ := Flo.int_single (z - 1000) (by omega)
  have hz : Flo.Ab (S (floatOfInt .f32 (z - 1000))) 1000 := by
    rw [v1]
    have a1 : (-1000 : Rat) ≤ ((z - 1000 : Int) : Rat) := Rat.intCast_le_intCast.2 (show -1000 ≤ z - 1000 by omega)
    have a2 : ((z - 1000 : Int) : Rat) ≤ 1000 := Rat.intCast_le_intCast.2 (show z - 1000 ≤ 1000 by omega)
    exact ⟨a1, a2⟩
  have hK0 := hK.nonneg
  have hp := hK.mul hz
  have e71 : Flo.pw 71 = 2048 * Flo.pw 60 := by rw [show (71 : Int) = 11 + 60 from rfl, Flo.pw_add, show Flo.pw 11 = 2048 from Flo.pw_nat 11]
  have l71 := Flo.pw_lt (a := 71) (b := 126) (by omega)
  have l72 := Flo.pw_lt (a := 126) (b := 127) (by omega)
  have o60 : 1 ≤ Flo.pw 60 := by rw [← Flo.pw_zero]; exact Flo.pw_le (by omega)
  have ve := Flo.v_eq
  have v0 := Flo.v_pos
  have es0 := Flo.es_pos
  have ev : Flo.es ≤ Flo.v := Flo.pw_le (by omega)
  have hKv : K * Flo.v = K / 16777216 := by
    have : Flo.v = 1 / 16777216 := by grind
    rw [this]; grind
  obtain ⟨r1, a1, a2, a3⟩ := Flo.s_mul _ _ hm n1 (K * 1000) hp (by grind)
  have hq : (S r1 / 1000) * S 1148846080 = S r1 := by rw [num_1000.2]; grind
  have h1000 : Flo.Ab (S r1) (K * 1000 + K * 1000 * Flo.v + Flo.es) := ((a3.add hp).eq (by grind)).mono (by grind)
  have hq2 : Flo.Ab (S r1 / 1000) (K + K * Flo.v + Flo.es) := by
    unfold Flo.Ab at *; constructor <;> grind
  obtain ⟨r2, b1, b2, b3⟩ := Flo.s_div r1 1148846080 a2 num_1000.1 (by rw [num_1000.2]; grind) _ _ hq hq2 (by grind)
  refine ⟨r1, r2, a1, b1, b2, ?_⟩
  refine ((b3.add hq2).eq (show S r2 - S r1 / 1000 + S r1 / 1000 = S r2 by grind)).mono ?_
  have hKvv : K * Flo.v * Flo.v = K / 16777216 / 16777216 := by
    rw [hKv]; have : Flo.v = 1 / 16777216 := by grind
    rw [this]; grind
  have hev : Flo.es * Flo.v ≤ Flo.es := by
    have := Rat.mul_le_mul_of_nonneg_left (show Flo.v ≤ 1 by grind) (Rat.le_of_lt es0); grind
  grind

theorem info_f32 : (Tryd.prog.info? 22).map (fun i => (i.zero, i.size, i.bytes)) = some (some (.float .f32 0), 1, 4) := by kernel_rfl

/-- the cells of a row of samples -/
def cellsS (xs : List Nat) : List Value := xs.map (Value.float .f32)

def SmallI (B : Nat) (w0 : World) (a : Option Addr) (len cap c base : Nat) (K : Rat) (v i : Value) (wr : World) : Prop :=
  ∃ (k : Nat) (xs : List Nat), i = .int .i64 (k : Int) ∧ k + xs.length ≤ 11 ∧ At B w0 a len cap c wr ∧ wr.ownsRow base 22 1 v xs.length (cellsS xs) ∧ (∀ x ∈ xs, Samp K x) ∧ base ≤ wr.heap.size

/-- at most eleven samples, in memory of the call's own -/
def SmallP (K : Rat) (w : World) (e : Ending) (w' : World) : Prop :=
  ∃ (xs : List Nat) (v : Value), e = .returned v ∧ xs.length ≤ 11 ∧ (∀ x ∈ xs, Samp K x) ∧ w'.ownsRow w.heap.size 22 1 v xs.length (cellsS xs) ∧ Nw w w'

/-! ### the laws' own bytes -/
theorem ret_int' {k : IntKind} {a b : Int} (h : a = b) : Ending.returned (.int k a) = .returned (.int k b) := by rw [h]
def AtP (w : World) (e : Ending) (w' : World) : Prop := ∃ z : Nat, z ≤ 255 ∧ e = .returned (.int .i64 (z : Int)) ∧ w = w'
end Go.Proofs.YtjmignhcfmdcaaaDoor
