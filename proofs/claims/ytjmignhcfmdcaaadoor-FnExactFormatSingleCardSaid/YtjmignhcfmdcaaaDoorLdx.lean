/- math.Ldexp where the answer is a normal number.
   Conditions: those that each statement names. -/
import Derived.Test.YtjmignhcfmdcaaaDoorFrx
namespace Go.Proofs.YtjmignhcfmdcaaaDoor
set_option linter.unusedSimpArgs false
set_option linter.unusedVariables false
open Go Go.RowKit

def LdP (sg : Bool) (m : Nat) (p k : Int) (w : World) (e : Ending) (w' : World) : Prop :=
  ∃ (Y s N F : Nat), e = .returned (.float .f64 Y) ∧ Y = s * 9223372036854775808 + (N * 4503599627370496 + F) ∧ s < 2 ∧ sg = (s == 1) ∧ 1 ≤ N ∧ N < 2047 ∧ F < 4503599627370496 ∧
    ((4503599627370496 + F : Nat) : Rat) * Flo.pw ((N : Int) - 1075) = (m : Rat) * Flo.pw (p + k) ∧ ∃ n, w' = w.drewN n

/-- the exponent of the answer lies in the range of normal numbers -/
theorem exp_range (F m : Nat) (q p k : Int) (hF : F < 4503599627370496) (h : ((4503599627370496 + F : Nat) : Rat) * Flo.pw q = (m : Rat) * Flo.pw p) (h1 : Flo.pw (-1022) ≤ (m : Rat) * Flo.pw (p + k)) (h2 : (m : Rat) * Flo.pw (p + k) < Flo.pw 1024) :
    -1022 ≤ q + 52 + k ∧ q + 52 + k ≤ 1023 := by
  have e : ((4503599627370496 + F : Nat) : Rat) * Flo.pw (q + k) = (m : Rat) * Flo.pw (p + k) := by
    rw [Flo.pw_add q, Flo.pw_add p]; grind
  rw [← e] at h1 h2
  have f1 : ((4503599627370496 + F : Nat) : Rat) < 9007199254740992 := by exact_mod_cast (show 4503599627370496 + F < 9007199254740992 by omega)
  have f2 : (4503599627370496 : Rat) ≤ ((4503599627370496 + F : Nat) : Rat) := by exact_mod_cast Nat.le_add_right _ F
  have g1 := Rat.mul_lt_mul_of_pos_right f1 (Flo.pw_pos (q + k))
  have g2 := Rat.mul_le_mul_of_nonneg_right f2 (Rat.le_of_lt (Flo.pw_pos (q + k)))
  have p53 : (9007199254740992 : Rat) * Flo.pw (q + k) = Flo.pw (q + k + (53 : Nat)) := by rw [Flo.pw_add (q + k), Flo.pw_nat, show ((2 ^ 53 : Nat) : Rat) = 9007199254740992 from rfl]; grind
  have p52 : (4503599627370496 : Rat) * Flo.pw (q + k) = Flo.pw (q + k + (52 : Nat)) := by rw [Flo.pw_add (q + k), Flo.pw_nat, show ((2 ^ 52 : Nat) : Rat) = 4503599627370496 from rfl]; grind
  rw [p53] at g1
  rw [p52] at g2
  constructor
  · rcases Int.lt_or_le (q + 52 + k) (-1022) with g | g
    · exfalso
      have := Flo.pw_le (show q + k + (53 : Nat) ≤ -1022 by omega)
      grind
    · exact g
  · rcases Int.lt_or_le 1023 (q + 52 + k) with g | g
    · exfalso
      have := Flo.pw_le (show 1024 ≤ q + k + (52 : Nat) by omega)
      grind
    · exact g

theorem i64_low11 (a : Nat) (ha : a < 4096) : bits .and .i64 (a : Int) 2047 = ((a % 2048 : Nat) : Int) := by
  have hb : (BitVec.ofInt 64 2047).toNat = 2047 := by decide
  have hr : (BitVec.ofInt 64 (a : Int) &&& BitVec.ofInt 64 2047).toNat = a % 2048 := by
    rw [BitVec.toNat_and, hb, ofInt_u64 a (by omega), nat_mask11]
  show IntKind.i64.wrap ((BitVec.ofInt 64 (a : Int) &&& BitVec.ofInt 64 2047).toNat : Int) = _
  rw [hr, IntKind.wrap_i64]
  omega
theorem and_exp_i (s E F : Nat) (hs : s < 2) (hE : E < 2047) (hF : F < 4503599627370496) : bits .and .i64 (((s * 9223372036854775808 + (E * 4503599627370496 + F) : Nat) : Int) / 4503599627370496) 2047 = (E : Int) := by
  have k : (s * 2048 + E) % 2048 = E := by omega
  have e : ((s * 9223372036854775808 + (E * 4503599627370496 + F) : Nat) : Int) / 4503599627370496 = ((s * 2048 + E : Nat) : Int) := by omega
  have e2 := i64_low11 (s * 2048 + E) (by omega)
  rw [k] at e2
  exact (congrArg (fun v => bits .and .i64 v 2047) e).trans e2

set_option maxRecDepth 100000 in
theorem ldexp_inner (x m : Nat) (sg : Bool) (p k : Int) (hx : x < 18446744073709551616) (h : Ieee.double.read x = .number sg m p) (hm : m ≠ 0) (hk : -100000 ≤ k ∧ k ≤ 100000)
    (r1 : Flo.pw (-1022) ≤ (m : Rat) * Flo.pw (p + k)) (r2 : (m : Rat) * Flo.pw (p + k) < Flo.pw 1024) (w : World) :
    Calls Tryd.prog 47 #[.float .f64 x, .int .i64 k] w (LdP sg m p k w) := by
  have h0 := ne0_num x m sg p h hm
  have hx' : x < 2 ^ 64 := hx
  have hi : (FloatKind.f64.decode x).isInfinity = false := by rw [show FloatKind.f64.decode x = _ from h]; rfl
  have hn : (FloatKind.f64.decode x).isNaN = false := by rw [show FloatKind.f64.decode x = _ from h]; rfl
  have H := Lib.hid (And.intro h (And.intro hm (And.intro r1 r2)))
  clear h hm r1 r2
  go_enter Tryd.func47, Tryd.ntmps47
  go_wp2_with (first
    | (go_at_call 32; refine (isInf_any _ _ hx').mono ?_; rintro e w' ⟨rfl, rfl⟩; rw [hi])
    | (go_at_call 31; refine (isNaN_any _ _).mono ?_; rintro e w' ⟨rfl, rfl⟩; rw [hn]))
  go_at_call 57
  refine (normalize_ok x m sg p hx H.out.1 H.out.2.1 _).mono ?_
  rintro e w' ⟨X, s, E, F, z, rfl, hX, h1, h2, h3, h4, h5, h6, h7, n, rfl⟩
  have ht := exp_range F m _ p k h5 h7 H.out.2.2.1 H.out.2.2.2
  obtain ⟨Y, hY⟩ : ∃ Y : Nat, Y = s * 9223372036854775808 + F := ⟨_, rfl⟩
  obtain ⟨t, et⟩ : ∃ t : Int, t = k + z + ((E : Int) - 1023) := ⟨_, rfl⟩
  have et2 : t = (E : Int) - 1075 + z + 52 + k := by omega
  rw [← et2] at ht
  obtain ⟨N, hN⟩ := Int.eq_ofNat_of_zero_le (show 0 ≤ t + 1023 by omega)
  obtain ⟨Z, hZ⟩ : ∃ Z : Nat, Z = s * 9223372036854775808 + (N * 4503599627370496 + F) := ⟨_, rfl⟩
  have hN1 : 1 ≤ N := by omega
  have hN2 : N < 2047 := by omega
  have a0 : RowKit.wrap64 ((X : Int) / 4503599627370496) = (X : Int) / 4503599627370496 := by unfold RowKit.wrap64; omega
  have a1 : bits .and .i64 ((X : Int) / 4503599627370496) 2047 = (E : Int) := by rw [hX]; exact and_exp_i s E F h1 h4 h5
  have a2 : bits .andNot .u64 (X : Int) 9218868437227405312 = (Y : Int) := by rw [hX, hY]; exact clr_word s E F h1 h4 h5
  have a3 : bits .or .u64 (Y : Int) ((k + z + ((E : Int) - 1023) + 1023) * 4503599627370496) = (Z : Int) := by rw [← et, hN, hY, hZ]; exact put s F N h1 h5 (by omega)
  have a4 : ((Z : Nat) : Int).toNat = Z := by omega
  have hv : ((4503599627370496 + F : Nat) : Rat) * Flo.pw ((N : Int) - 1075) = (m : Rat) * Flo.pw (p + k) := by
    rw [show (N : Int) - 1075 = (E : Int) - 1075 + z + k from by omega, Flo.pw_add _ k, Flo.pw_add p k, ← Rat.mul_assoc, h7, Rat.mul_assoc]
  have o1 : floatBits .mul .f64 4607182418800017408 Z = some Z := by rw [hZ]; exact one_mul_word s N F h1 hN1 hN2 h5
  have o2 : ∀ w, fres w .mul .f64 4607182418800017408 Z = Z := fun w => by unfold fres; rw [o1]
  have o3 : fdr .mul .f64 4607182418800017408 Z = 0 := by unfold fdr; rw [o1]; rfl
  have HH := Lib.hid (And.intro h1 (And.intro h2 (And.intro hN1 (And.intro hN2 (And.intro h5 (And.intro hZ hv))))))
  have c1 := call_bits X
  have c2 := call_frombits
  clear h1 h2 h3 h5 h7 hX hY hZ o1 hv
  go_wp2_with fail
  go_ret
  exact ⟨Z, s, N, F, rfl, HH.out.2.2.2.2.2.1, HH.out.1, HH.out.2.1, HH.out.2.2.1, HH.out.2.2.2.1, HH.out.2.2.2.2.1, HH.out.2.2.2.2.2.2, _, rfl⟩

theorem ldexp_nor (x m : Nat) (sg : Bool) (p k : Int) (hx : x < 18446744073709551616) (h : Ieee.double.read x = .number sg m p) (hm : m ≠ 0) (hk : -100000 ≤ k ∧ k ≤ 100000)
    (r1 : Flo.pw (-1022) ≤ (m : Rat) * Flo.pw (p + k)) (r2 : (m : Rat) * Flo.pw (p + k) < Flo.pw 1024) (w : World) :
    Calls Tryd.prog 35 #[.float .f64 x, .int .i64 k] w (LdP sg m p k w) := by
  have H := Lib.hid (And.intro h (And.intro hm (And.intro r1 r2)))
  clear h hm r1 r2
  go_enter Tryd.func35, Tryd.ntmps35
  go_wp2_with fail
  refine (ldexp_inner x m sg p k hx H.out.1 H.out.2.1 hk H.out.2.2.1 H.out.2.2.2 _).mono ?_
  rintro e w' ⟨Y, s, N, F, rfl, h1⟩
  have HH := Lib.hid h1
  clear h1
  go_wp2_with fail
  go_ret
  exact ⟨Y, s, N, F, rfl, HH.out⟩

/-! ### whole numbers of 64 bits, without a sign -/
theorem trunc_u64 {x : Nat} {iv : Nat} (h : floatToIntVal .f64 x .i64 = some (iv : Int)) : floatToIntVal .f64 x .u64 = some (iv : Int) := by
  unfold floatToIntVal at h ⊢
  cases hd : (FloatKind.f64.decode x).toInt .zero with
  | none => rw [hd] at h; simp at h
  | some n =>
    rw [hd] at h
    simp only at h ⊢
    have hmin : IntKind.i64.min = -9223372036854775808 := by decide
    have hmax : IntKind.i64.max = 9223372036854775807 := by decide
    have umin : IntKind.u64.min = 0 := by decide
    have umax : IntKind.u64.max = 18446744073709551615 := by decide
    rw [hmin, hmax] at h
    rw [umin, umax]
    split at h
    · rename_i hc
      injection h with h
      rw [if_pos (by omega), h]
    · simp at h

/-! ### TrailingZeros64 -/
theorem tz_core (x k idx : Nat) (w : World) (hz : ((x : Int) == 0) = false)
    (key : IntKind.u64.wrap (bits BinOp.and IntKind.u64 (x : Int) (IntKind.u64.wrap (-(x : Int))) * 285870213051353865) / 288230376151711744 = (idx : Int))
    (hi : idx < 64) (hk : k < 64) (hcell : w.cell? ⟨1, idx, none⟩ = some (.int .u8 k)) :
    Calls Tryd.prog 36 #[.int .u64 (x : Int)] w fun e w' => e = .returned (.int .i64 (k : Nat)) ∧ w' = w := by
  go_enter Tryd.func36, Tryd.ntmps36
  go_wp2_with (simp only [key])
  go_ret
  exact ⟨rfl, rfl⟩
theorem tz_ok (x : Nat) (h0 : x ≠ 0) (hx : x < 18446744073709551616) (w : World) (hT : TabAt 1 Lib.deBruijn64tab w) :
    Calls Tryd.prog 36 #[.int .u64 (x : Int)] w fun e w' => e = .returned (.int .i64 (Lib.ctz 64 x : Nat)) ∧ w' = w := by
  obtain ⟨hlow, hk⟩ := Lib.lowest_bit 64 x h0 hx
  obtain ⟨hi, htab⟩ := Lib.deBruijn64_at _ hk
  have hcell := hT _ hi
  rw [htab] at hcell
  exact tz_core x _ _ w (by simp; omega) (tz64_key x _ hx h0 hlow) hi hk hcell

end Go.Proofs.YtjmignhcfmdcaaaDoor
