/- Plain facts: a number of single precision with its sign turned.
   Conditions: those that each statement names. No program stands in it. -/
import Derived.Test.YtfgofmcpgfofaaaWide
namespace Go.Proofs.Ytfgofmcpgfofaaa
open Go

abbrev ng (b : Nat) : Nat := Op.negFloat .f32 b
theorem ng_eq (b : Nat) : ng b = b ^^^ 2 ^ 31 := rfl
theorem ng_ng (b : Nat) : ng (ng b) = b := by rw [ng_eq, ng_eq, Nat.xor_assoc, Nat.xor_self, Nat.xor_zero]
theorem ng_mod (b : Nat) : ng b % 2 ^ 31 = b % 2 ^ 31 := by
  rw [ng_eq, Nat.xor_mod_two_pow]
  simp
theorem ng_bit (b : Nat) : (ng b / 2 ^ 31 % 2 == 1) = !(b / 2 ^ 31 % 2 == 1) := by
  have h1 := Nat.testBit_xor b (2 ^ 31) 31
  have h2 : (2 ^ 31 : Nat).testBit 31 = true := by decide
  rw [h2] at h1
  rw [Nat.testBit_eq_decide_div_mod_eq, Nat.testBit_eq_decide_div_mod_eq] at h1
  rw [ng_eq]
  have e : ∀ z : Nat, (z == 1) = decide (z = 1) := fun z => by by_cases hz : z = 1 <;> simp [hz]
  rw [e, e, h1]
  cases decide (b / 2 ^ 31 % 2 = 1) <;> rfl
theorem ng_read (b : Nat) {s : Bool} {m : Nat} {p : Int} (h : Ieee.single.read b = .number s m p) : Ieee.single.read (ng b) = .number (!s) m p := by
  have hsw : Ieee.single.signWeight = 2 ^ 31 := rfl
  unfold Ieee.Format.read at h ⊢
  rw [hsw] at h ⊢
  simp only [ng_mod, ng_bit] at h ⊢
  split at h
  · rename_i g; cases h; rw [if_pos g]
  · rename_i g
    split at h
    · rename_i g2; cases h; rw [if_neg g, if_pos g2]
    · split at h <;> cases h
theorem ng_val {b : Nat} (h : Sm b) : Sm (ng b) ∧ S (ng b) = - S b := by
  obtain ⟨s, m, p, h⟩ := h
  refine ⟨⟨_, _, _, ng_read b h⟩, ?_⟩
  rw [show S (ng b) = Flo.val (!s) m p from Flo.V_eq (ng_read b h), show S b = Flo.val s m p from Flo.V_eq h]
  unfold Flo.val
  cases s <;> simp <;> grind
end Go.Proofs.Ytfgofmcpgfofaaa
