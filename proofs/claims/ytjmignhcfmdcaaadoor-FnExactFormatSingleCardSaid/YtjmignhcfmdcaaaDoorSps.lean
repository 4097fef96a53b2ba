/- Plain facts on the operations of single precision, with bounded errors; narrowing; whole numbers. No program stands in it.
   Conditions: those that each statement names. -/
import Derived.Test.YtjmignhcfmdcaaaDoorSin
namespace Go.Proofs.YtjmignhcfmdcaaaDoor
set_option linter.unusedSimpArgs false
set_option linter.unusedVariables false
open Go

namespace Flo
def v : Rat := pw (-24)
def es : Rat := pw (-149)
theorem v_pos : 0 < v := pw_pos _
theorem es_pos : 0 < es := pw_pos _
theorem top_single : top Ieee.single = 127 := by decide
theorem lp_single : Ieee.single.leastPlace = -149 := by decide
theorem fb_single : (Ieee.single.fractionBits : Int) = 23 := rfl
theorem err_single (B : Rat) : (B * pw (-(Ieee.single.fractionBits : Int)) + pw Ieee.single.leastPlace) / 2 = B * v + es / 2 := by
  rw [lp_single, fb_single]
  have : pw (-23) = 2 * pw (-24) := by rw [← pw_succ]; rfl
  unfold v es
  rw [this]; grind
theorem v_eq : v * 16777216 = 1 := by
  have e : pw (-24) * pw 24 = 1 := pw_neg_mul 24
  rw [show pw 24 = 16777216 from pw_nat 24] at e
  exact e
theorem es_le : es ≤ v * v * v * v * v := by
  unfold es v
  rw [← pw_add, ← pw_add, ← pw_add, ← pw_add]
  exact pw_le (by omega)
theorem u_le_v : u ≤ v / 536870912 := by
  have h : pw (-24) = pw 29 * pw (-53) := by rw [← pw_add]; rfl
  have e : pw 29 = 536870912 := pw_nat 29
  unfold u v
  rw [h, e]; grind
theorem et_le_es : et ≤ es := pw_le (by omega)

theorem s_add (x y : Nat) (hx : Sm x) (hy : Sm y) (B : Rat) (h : Ab (S x + S y) B) (hB : B < pw 127) :
    ∃ r, floatBits .add .f32 x y = some r ∧ Sm r ∧ Ab (S r - (S x + S y)) (B * v + es) := by
  obtain ⟨r, h1, h2, h3⟩ := add_ok Ieee.single (by decide) x y hx hy B h.2 h.1 (by rw [top_single]; exact hB)
  rw [err_single] at h3
  have := es_pos
  refine ⟨r, h1, h2, ?_⟩
  unfold Near at h3; unfold Ab S; grind
theorem s_sub (x y : Nat) (hx : Sm x) (hy : Sm y) (B : Rat) (h : Ab (S x - S y) B) (hB : B < pw 127) :
    ∃ r, floatBits .sub .f32 x y = some r ∧ Sm r ∧ Ab (S r - (S x - S y)) (B * v + es) := by
  obtain ⟨r, h1, h2, h3⟩ := sub_ok Ieee.single (by decide) x y hx hy B h.2 h.1 (by rw [top_single]; exact hB)
  rw [err_single] at h3
  have := es_pos
  refine ⟨r, h1, h2, ?_⟩
  unfold Near at h3; unfold Ab S; grind
theorem s_mul (x y : Nat) (hx : Sm x) (hy : Sm y) (B : Rat) (h : Ab (S x * S y) B) (hB : B < pw 127) :
    ∃ r, floatBits .mul .f32 x y = some r ∧ Sm r ∧ Ab (S r - S x * S y) (B * v + es) := by
  obtain ⟨r, h1, h2, h3⟩ := mul_ok Ieee.single (by decide) x y hx hy B h.2 h.1 (by rw [top_single]; exact hB)
  rw [err_single] at h3
  have := es_pos
  refine ⟨r, h1, h2, ?_⟩
  unfold Near at h3; unfold Ab S; grind
theorem s_div (x y : Nat) (hx : Sm x) (hy : Sm y) (hy0 : S y ≠ 0) (q B : Rat) (hq : q * S y = S x) (h : Ab q B) (hB : B < pw 126) :
    ∃ r, floatBits .quo .f32 x y = some r ∧ Sm r ∧ Ab (S r - q) (4 * (B * v) + es) := by
  obtain ⟨r, h1, h2, h3⟩ := div_ok Ieee.single (by decide) x y hx hy hy0 q B hq h.2 h.1 (by
    rw [top_single, show (127 : Int) = 126 + 1 from rfl, pw_succ]; grind)
  rw [lp_single, fb_single] at h3
  have e : pw (-23) = 2 * pw (-24) := by rw [← pw_succ]; rfl
  rw [e] at h3
  refine ⟨r, h1, h2, ?_⟩
  unfold Near at h3; unfold Ab S v es; grind

/-- the bits of a narrowed number -/
def nar (b : Nat) : Nat := FloatKind.f32.encode (FloatKind.f64.decode b)
/-- narrowing a number that is not too great -/
theorem narrow_ok (x : Nat) (hx : Nm x) (B : Rat) (h : Ab (W x) B) (hB : B < pw 127) :
    (∀ w, fcv w .f64 x .f32 = nar x) ∧ fcd .f64 x .f32 = 0 ∧ Sm (nar x) ∧ Ab (S (nar x) - W x) (B * v + es) := by
  obtain ⟨s, m, p, hr⟩ := hx
  rw [show W x = _ from V_eq hr] at h ⊢
  obtain ⟨h1, h2⟩ := write_ok Ieee.single (by decide) s m p B h.2 h.1 (by rw [top_single]; exact hB)
  rw [err_single] at h2
  have hd : FloatKind.f64.decode x = .number s m p := hr
  obtain ⟨s', m', p', hn⟩ := h1
  have hinf : (FloatKind.f32.decode (FloatKind.f32.encode (.number s m p))).isInfinity = false := by
    show (Ieee.single.read (Ieee.single.write (.number s m p))).isInfinity = false
    rw [hn]; rfl
  have en : nar x = FloatKind.f32.encode (.number s m p) := by unfold nar; rw [hd]
  rw [en]
  refine ⟨?_, ?_, ⟨s', m', p', hn⟩, ?_⟩
  · intro w
    unfold fcv
    rw [if_neg (by decide), hd]
    simp only [hinf, Bool.false_eq_true, if_false]
  · unfold fcd
    rw [if_neg (by decide), hd]
    simp only [hinf, Bool.false_eq_true, if_false]
  · have := es_pos
    unfold Near at h2
    unfold Ab
    show _ ≤ V Ieee.single (Ieee.single.write (.number s m p)) - _ ∧ V Ieee.single (Ieee.single.write (.number s m p)) - _ ≤ _
    grind

/-- whole numbers that the format has -/
theorem int_exact (k : FloatKind) (n : Int) (hn : n.natAbs < 2 ^ (k.format.fractionBits + 1)) (he : 2 ≤ k.format.exponentBits) (hp : k.format.leastPlace ≤ 0) (ht : (n.natAbs : Rat) < pw (top k.format)) :
    IsNum k.format (floatOfInt k n) ∧ V k.format (floatOfInt k n) = (n : Rat) := by
  have e : floatOfInt k n = k.format.write (.number (decide (n < 0)) n.natAbs 0) := rfl
  rw [e]
  obtain ⟨m', p', w1, w2, w3, w4⟩ := write_exact k.format he (decide (n < 0)) n.natAbs 0 n.natAbs 0 rfl hn hp (by rw [pw_zero]; grind)
  refine ⟨⟨_, _, _, w1⟩, ?_⟩
  rw [V_eq w1]
  unfold val
  rw [w4, pw_zero]
  by_cases h : n < 0
  · rw [if_pos (by simpa using h)]
    have : (n : Rat) = -((n.natAbs : Nat) : Rat) := by
      have h2 : n = -((n.natAbs : Nat) : Int) := by omega
      conv => lhs; rw [h2]
      rw [Rat.intCast_neg, Rat.intCast_natCast]
    rw [this]; grind
  · rw [if_neg (by simpa using h)]
    have : (n : Rat) = ((n.natAbs : Nat) : Rat) := by
      have h2 : n = ((n.natAbs : Nat) : Int) := by omega
      conv => lhs; rw [h2]
      rw [Rat.intCast_natCast]
    rw [this]; grind
theorem int_single (n : Int) (hn : n.natAbs < 16777216) : Sm (floatOfInt .f32 n) ∧ S (floatOfInt .f32 n) = (n : Rat) := by
  refine int_exact .f32 n (by rw [show 2 ^ (FloatKind.f32.format.fractionBits + 1) = 16777216 from by decide]; exact hn) (by decide) (by decide) ?_
  show (n.natAbs : Rat) < pw (top Ieee.single)
  rw [top_single]
  have h1 : ((n.natAbs : Nat) : Rat) < ((16777216 : Nat) : Rat) := by exact_mod_cast hn
  have h2 : pw 24 = ((16777216 : Nat) : Rat) := pw_nat 24
  have h3 := pw_lt (a := 24) (b := 127) (by omega)
  grind
theorem int_double (n : Int) (hn : n.natAbs < 9007199254740992) : Nm (floatOfInt .f64 n) ∧ W (floatOfInt .f64 n) = (n : Rat) := by
  refine int_exact .f64 n (by rw [show 2 ^ (FloatKind.f64.format.fractionBits + 1) = 9007199254740992 from by decide]; exact hn) (by decide) (by decide) ?_
  show (n.natAbs : Rat) < pw (top Ieee.double)
  rw [top_double]
  have h1 : ((n.natAbs : Nat) : Rat) < ((9007199254740992 : Nat) : Rat) := by exact_mod_cast hn
  have h2 : pw 53 = ((9007199254740992 : Nat) : Rat) := pw_nat 53
  have h3 := pw_lt (a := 53) (b := 1023) (by omega)
  grind
end Flo
end Go.Proofs.YtjmignhcfmdcaaaDoor
