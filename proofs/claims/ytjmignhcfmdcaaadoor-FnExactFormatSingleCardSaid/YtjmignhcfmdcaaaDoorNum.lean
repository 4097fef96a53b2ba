/- The walks of the small functions on numbers: what each returns, as a function of its arguments' bits.
   Conditions: none beyond those that each statement names. -/
import Derived.Test.YtjmignhcfmdcaaaDoorChecked
import Derived.Test.YtjmignhcfmdcaaaDoorRun
import Derived.Test.YtjmignhcfmdcaaaDoorDiv
import Derived.RowKit
namespace Go.Proofs.YtjmignhcfmdcaaaDoor
set_option linter.unusedSimpArgs false
set_option linter.unusedVariables false
open Go Go.RowKit

theorem order_self (k : FloatKind) (x : Nat) : (k.format.order x x == some .eq) = !(k.decode x).isNaN := by
  unfold Ieee.Format.order FloatKind.decode
  cases h : k.format.read x <;> simp [Ieee.Datum.order, Ieee.Datum.isNaN]

theorem isNaN_any (x : Nat) (w : World) :
    Calls Tryd.prog 31 #[.float .f64 x] w fun e w' => e = .returned (.bool (FloatKind.f64.decode x).isNaN) ∧ w = w' := by
  go_enter Tryd.func31, Tryd.ntmps31
  go_wp2
  all_goals (go_ret; exact ⟨by simp [bne, order_self], rfl⟩)

theorem fin_iff (k : FloatKind) (x : Nat) : fin k x = true ↔ Flo.IsNum k.format x := by
  unfold fin Flo.IsNum FloatKind.decode
  cases k.format.read x <;> simp

theorem fab_of_fin {k : FloatKind} {x : Nat} (h : fin k x = true) : fab k x = some x := by
  apply fab_some
  unfold fin at h
  cases hd : k.decode x <;> simp [hd] at h
  rfl

/-- 'x - x' is 0 exactly where x is a number -/
theorem sub_self_fin (w : World) (x : Nat) : (FloatKind.f64.format.order (fres w .sub .f64 x x) 0 == some .eq) = fin .f64 x := by
  have hz : Ieee.double.read 0 = .number false 0 (-1074) := by decide
  cases h : fin .f64 x with
  | true =>
    have hx := (fin_iff .f64 x).1 h
    have h0 : (0 : Rat) < Flo.pw 1023 := Flo.pw_pos _
    obtain ⟨r, h1, h2, h3⟩ := Flo.d_sub x x hx hx 0 ⟨by grind, by grind⟩ h0
    obtain ⟨s, m, i, hr⟩ := hx
    have e : floatBits .sub .f64 x x = some 0 := by
      unfold floatBits Ieee.Format.sub
      rw [hr]
      unfold Ieee.Datum.opposite Ieee.Datum.sum
      simp only [Int.min_self, Int.sub_self, Int.toNat_zero]
      have : Ieee.signed s m 0 + Ieee.signed (!s) m 0 = 0 := by unfold Ieee.signed; cases s <;> simp <;> omega
      rw [this]
      cases s <;> rfl
    have : fres w .sub .f64 x x = 0 := by unfold fres; rw [e]
    rw [this]; decide
  | false =>
    have hn : floatBits .sub .f64 x x = none := by
      unfold floatBits Ieee.Format.sub
      unfold fin FloatKind.decode at h
      cases hd : FloatKind.f64.format.read x with
      | number => rw [hd] at h; simp at h
      | infinity s => cases s <;> rfl
      | nan => simp [Ieee.Datum.sum]
    have hN : (FloatKind.f64.decode (fres w .sub .f64 x x)).isNaN = true := by
      unfold fres; rw [hn]; exact nan_cut _ _ _ _
    unfold FloatKind.decode at hN
    unfold Ieee.Format.order
    cases hd : FloatKind.f64.format.read (fres w .sub .f64 x x) <;> rw [hd] at hN <;> simp [Ieee.Datum.isNaN] at hN
    simp [Ieee.Datum.order]

theorem l1Finite_any (x : Nat) (w : World) :
    Calls Tryd.prog 16 #[.float .f64 x] w fun e w' => e = .returned (.bool (fin .f64 x)) ∧ ∃ n, w' = w.drewN n := by
  go_enter Tryd.func16, Tryd.ntmps16
  go_wp2
  all_goals (go_ret; exact ⟨by simp [sub_self_fin], _, rfl⟩)

/-- the absolute value, never -0 -/
def labs (x : Nat) : Nat := if FloatKind.f64.format.order x 0 = some .lt then Op.negFloat .f64 x else if FloatKind.f64.format.order x 0 = some .eq then 0 else x
theorem l1Abs_any (x : Nat) (w : World) :
    Calls Tryd.prog 18 #[.float .f64 x] w fun e w' => e = .returned (.float .f64 (labs x)) ∧ w = w' := by
  go_enter Tryd.func18, Tryd.ntmps18
  go_wp2
  all_goals (go_ret; refine ⟨?_, rfl⟩; simp_all [labs])

theorem call_bits (x : Nat) (w : World) : (callFunc 33 #[.float .f64 x]).run Tryd.prog w = .ok (.value (.int .u64 x)) w := by
  rw [run_callFunc_extern (P := Tryd.prog) (f := 33) Tryd.func33 (by kernel_rfl) (by kernel_rfl) (by kernel_rfl) (e := Extern.MathFloatBits.float64bits) (by kernel_rfl)]
  rfl
theorem call_frombits (n : Int) (w : World) : (callFunc 37 #[.int .u64 n]).run Tryd.prog w = .ok (.value (.float .f64 n.toNat)) w := by
  rw [run_callFunc_extern (P := Tryd.prog) (f := 37) Tryd.func37 (by kernel_rfl) (by kernel_rfl) (by kernel_rfl) (e := Extern.MathFloatBits.float64frombits) (by kernel_rfl)]
  rfl

def signBit : Nat := 2 ^ 63
theorem andNot_sign (x : Nat) (hx : x < 2 ^ 64) : (bits .andNot .u64 x 9223372036854775808).toNat = x % signBit := by
  have e := u64_andNot_nat x 9223372036854775808 hx (by decide)
  have e2 : x &&& (2 ^ 63 - 1) = x % 2 ^ 63 := Nat.and_two_pow_sub_one_eq_mod x 63
  rw [show ((9223372036854775808 : Nat) : Int) = 9223372036854775808 from rfl] at e
  rw [e, Int.toNat_natCast]
  exact e2

theorem abs_any (x : Nat) (w : World) (hx : x < 2 ^ 64) :
    Calls Tryd.prog 23 #[.float .f64 x] w fun e w' => e = .returned (.float .f64 (x % signBit)) ∧ w = w' := by
  have h1 := call_bits x
  have h2 := call_frombits
  have h3 := andNot_sign x hx
  go_enter Tryd.func23, Tryd.ntmps23
  go_wp2
  go_ret
  exact ⟨rfl, rfl⟩

theorem mod_read (x : Nat) : FloatKind.f64.decode (x % signBit) = match FloatKind.f64.decode x with | .number _ m p => .number false m p | .infinity _ => .infinity false | .nan _ f => .nan false f := by
  have e : x % signBit % Ieee.double.signWeight = x % Ieee.double.signWeight := Nat.mod_mod _ _
  have e2 : (x % signBit / Ieee.double.signWeight % 2 == 1) = false := by
    rw [show Ieee.double.signWeight = signBit from rfl, Nat.div_eq_of_lt (Nat.mod_lt _ (by decide))]; rfl
  show Ieee.double.read _ = match Ieee.double.read x with | .number _ m p => .number false m p | .infinity _ => .infinity false | .nan _ f => .nan false f
  unfold Ieee.Format.read
  simp only [e, e2]
  split
  · rfl
  · split
    · rfl
    · split <;> rfl

def maxBits : Nat := 9218868437227405311
theorem read_max : Ieee.double.read maxBits = .number false 9007199254740991 971 := by decide
theorem num_le_max (x : Nat) (s : Bool) (m : Nat) (p : Int) (h : Ieee.double.read x = .number s m p) : (m : Rat) * Flo.pw p ≤ ((9007199254740991 : Nat) : Rat) * Flo.pw 971 := by
  obtain ⟨b1, b2, b3⟩ := Flo.read_bound Ieee.double (by decide) x s m p h
  rw [Flo.lp_double] at b2 b3
  have b4 : p ≤ 971 := by
    have : (2 ^ Ieee.double.exponentBits : Nat) = 2048 := by decide
    omega
  have b5 : m ≤ 9007199254740991 := by
    have : 2 ^ (Ieee.double.fractionBits + 1) = 9007199254740992 := by decide
    omega
  have c1 : (m : Rat) ≤ ((9007199254740991 : Nat) : Rat) := by exact_mod_cast b5
  have c2 := Flo.pw_le b4
  have c3 := Rat.mul_le_mul_of_nonneg_right c1 (Rat.le_of_lt (Flo.pw_pos p))
  have c4 := Rat.mul_le_mul_of_nonneg_left c2 (show (0 : Rat) ≤ ((9007199254740991 : Nat) : Rat) by decide)
  grind

theorem inf_order (x : Nat) : (FloatKind.f64.format.order (x % signBit) maxBits == some .gt) = (FloatKind.f64.decode x).isInfinity := by
  have h := mod_read x
  show (Ieee.double.order (x % signBit) maxBits == some .gt) = (Ieee.double.read x).isInfinity
  have h : Ieee.double.read (x % signBit) = _ := h
  cases hd : Ieee.double.read x with
  | number s m p =>
    rw [show FloatKind.f64.decode x = _ from hd] at h
    have o := (Flo.order_num Ieee.double (x % signBit) maxBits ⟨_, _, _, h⟩ ⟨_, _, _, read_max⟩).2.2
    rw [Flo.V_eq h, Flo.V_eq read_max] at o
    have hle := num_le_max x s m p hd
    have hno : ¬ Flo.val false 9007199254740991 971 < Flo.val false m p := by
      unfold Flo.val; simp only [Bool.false_eq_true, if_false]; grind
    have hg : ¬ Ieee.double.order (x % signBit) maxBits = some .gt := fun e => hno (o.1 e)
    simpa [Ieee.Datum.isInfinity] using hg
  | infinity s =>
    rw [show FloatKind.f64.decode x = _ from hd] at h
    unfold Ieee.Format.order
    rw [h, read_max]; rfl
  | nan s f =>
    rw [show FloatKind.f64.decode x = _ from hd] at h
    unfold Ieee.Format.order
    rw [h]; rfl

theorem isInf_any (x : Nat) (w : World) (hx : x < 2 ^ 64) :
    Calls Tryd.prog 32 #[.float .f64 x, .int .i64 0] w fun e w' => e = .returned (.bool (FloatKind.f64.decode x).isInfinity) ∧ w = w' := by
  have h := inf_order x
  unfold maxBits at h
  go_enter Tryd.func32, Tryd.ntmps32
  go_wp2_with (go_at_call 23; refine (abs_any _ _ hx).mono ?_; rintro e w' ⟨rfl, rfl⟩)
  all_goals (go_ret; exact ⟨by simp, rfl⟩)

theorem isFinitePart_any (x : Nat) (w : World) (hx : x < 2 ^ 64) :
    Calls Tryd.prog 20 #[.float .f64 x] w fun e w' => e = .returned (.bool (fin .f64 x)) ∧ w = w' := by
  have hf : fin .f64 x = (!(FloatKind.f64.decode x).isNaN && !(FloatKind.f64.decode x).isInfinity) := by
    unfold fin; cases FloatKind.f64.decode x <;> rfl
  cases hn : (FloatKind.f64.decode x).isNaN
  all_goals
    go_enter Tryd.func20, Tryd.ntmps20
    go_wp2_with (first | (go_at_call 31; refine (isNaN_any _ _).mono ?_; rintro e w' ⟨rfl, rfl⟩) | (go_at_call 32; refine (isInf_any _ _ hx).mono ?_; rintro e w' ⟨rfl, rfl⟩))
    all_goals (go_ret; exact ⟨by simp [hf, hn], rfl⟩)

/-! ### products and quotients -/
def mulRe (a b c d : Option Nat) : Option Nat := fA .sub .f64 (fA .mul .f64 a c) (fA .mul .f64 b d)
def mulIm (a b c d : Option Nat) : Option Nat := fA .add .f64 (fA .mul .f64 a d) (fA .mul .f64 b c)
def DivPost (a b c d : Nat) (w : World) (e : Ending) (w' : World) : Prop := e = .returned (divV (divD a b c d)) ∧ ∃ n, w' = w.drewN n

/-! ### the law's own small functions -/
def SmallPost (a b c d k : Nat) (w : World) (e : Ending) (w' : World) : Prop := ∃ w1 w2 w3 n,
  e = .returned (.bool (FloatKind.f64.format.order (fres w3 .add .f64 (labs (fres w1 .sub .f64 a c)) (labs (fres w2 .sub .f64 b d))) k == some .lt ||
    FloatKind.f64.format.order (fres w3 .add .f64 (labs (fres w1 .sub .f64 a c)) (labs (fres w2 .sub .f64 b d))) k == some .eq)) ∧ w' = w.drewN n
def PowPost (j : Nat) (w : World) (e : Ending) (w' : World) : Prop := ∃ b, e = .returned (.float .f64 b) ∧ w = w' ∧ Flo.Nm b ∧ Flo.W b = Flo.pw (-(j : Int))
theorem one_num : Flo.Nm 4607182418800017408 ∧ Flo.W 4607182418800017408 = Flo.pw (-((0 : Nat) : Int)) := by
  have h : Ieee.double.read 4607182418800017408 = .number false 4503599627370496 (-52) := by decide
  refine ⟨⟨_, _, _, h⟩, ?_⟩
  rw [show Flo.W 4607182418800017408 = _ from Flo.V_eq h]
  unfold Flo.val
  rw [show (-((0 : Nat) : Int)) = -52 + (52 : Nat) from rfl, Flo.pw_add, Flo.pw_nat]
  simp only [Bool.false_eq_true, if_false]
  have : ((2 ^ 52 : Nat) : Rat) = ((4503599627370496 : Nat) : Rat) := rfl
  rw [this]; grind

/-- the bits of 2 to the power -j -/
def powB : Nat → Nat
  | 0 => 4607182418800017408
  | j + 1 => (floatBits .quo .f64 (powB j) 4611686018427387904).getD 0
theorem powB_ok : ∀ j, j ≤ 900 → Flo.Nm (powB j) ∧ Flo.W (powB j) = Flo.pw (-(j : Int))
  | 0, _ => one_num
  | j + 1, hj => by
    obtain ⟨h1, h2⟩ := powB_ok j (by omega)
    obtain ⟨r, r1, r2, r3⟩ := Flo.half_pw (powB j) j (by omega) h1 h2
    have e : powB (j + 1) = r := by simp only [powB, r1, Option.getD_some]
    rw [e]; exact ⟨r2, r3⟩
theorem powB_half (j : Nat) (hj : j ≤ 900) : floatBits .quo .f64 (powB j) 4611686018427387904 = some (powB (j + 1)) := by
  obtain ⟨h1, h2⟩ := powB_ok j (by omega)
  obtain ⟨r, r1, -, -⟩ := Flo.half_pw (powB j) j (by omega) h1 h2
  simp only [powB, r1, Option.getD_some]

/-! ### absolute values and sizes -/
def ra (q : Rat) : Rat := if q < 0 then -q else q
theorem ra_nonneg (q : Rat) : 0 ≤ ra q := by unfold ra; split <;> grind
theorem zero_num : Flo.Nm 0 ∧ Flo.W 0 = 0 := by
  have h : Ieee.double.read 0 = .number false 0 (-1074) := by decide
  exact ⟨⟨_, _, _, h⟩, by rw [show Flo.W 0 = _ from Flo.V_eq h]; exact Flo.val_zero _ _⟩
theorem neg_read (x : Nat) (hx : x < 2 ^ 64) (s : Bool) (m : Nat) (p : Int) (h : Ieee.double.read x = .number s m p) : Ieee.double.read (Op.negFloat .f64 x) = .number (!s) m p := by
  have hsw : Ieee.double.signWeight = 2 ^ 63 := rfl
  have e : Op.negFloat .f64 x = x ^^^ 2 ^ 63 := rfl
  rw [e]
  by_cases hb : x < 2 ^ 63
  · have e2 : x ^^^ 2 ^ 63 = x + 2 ^ 63 := by
      have h1 : x ^^^ 2 ^ 63 = x ||| 2 ^ 63 := by
        apply Nat.eq_of_testBit_eq
        intro i
        rw [Nat.testBit_xor, Nat.testBit_or, Nat.testBit_two_pow]
        by_cases hi : 63 = i
        · subst hi; rw [Nat.testBit_lt_two_pow hb]; simp
        · simp [hi]
      rw [h1, Nat.or_comm]
      exact (Nat.two_pow_add_eq_or_of_lt hb 1 ▸ by omega)
    rw [e2]
    unfold Ieee.Format.read at h ⊢
    rw [hsw] at h ⊢
    simp only [Nat.add_mod_right, Nat.mod_eq_of_lt hb] at h ⊢
    have d1 : (x / 2 ^ 63 % 2 == 1) = false := by rw [Nat.div_eq_of_lt hb]; rfl
    have d2 : ((x + 2 ^ 63) / 2 ^ 63 % 2 == 1) = true := by rw [Nat.add_div_right _ (by decide), Nat.div_eq_of_lt hb]; rfl
    rw [d1] at h; rw [d2]
    split at h
    · rename_i g; cases h; rw [if_pos g]; rfl
    · rename_i g
      split at h
      · rename_i g2; cases h; rw [if_neg g, if_pos g2]; rfl
      · split at h <;> cases h
  · obtain ⟨y, rfl⟩ : ∃ y, x = 2 ^ 63 + y := ⟨x - 2 ^ 63, by omega⟩
    have hy : y < 2 ^ 63 := by omega
    have e2 : (2 ^ 63 + y) ^^^ 2 ^ 63 = y := by
      have h1 : 2 ^ 63 + y = 2 ^ 63 ^^^ y := by
        have h2 : 2 ^ 63 ^^^ y = 2 ^ 63 ||| y := by
          apply Nat.eq_of_testBit_eq
          intro i
          rw [Nat.testBit_xor, Nat.testBit_or, Nat.testBit_two_pow]
          by_cases hi : 63 = i
          · subst hi; rw [Nat.testBit_lt_two_pow hy]; simp
          · simp [hi]
        rw [h2]
        exact (Nat.two_pow_add_eq_or_of_lt hy 1 ▸ by omega)
      rw [h1, Nat.xor_comm, ← Nat.xor_assoc, Nat.xor_self, Nat.zero_xor]
    rw [e2]
    unfold Ieee.Format.read at h ⊢
    rw [hsw] at h ⊢
    simp only [Nat.add_mod_left, Nat.mod_eq_of_lt hy] at h ⊢
    have d1 : ((2 ^ 63 + y) / 2 ^ 63 % 2 == 1) = true := by rw [Nat.add_div_left _ (by decide), Nat.div_eq_of_lt hy]; rfl
    have d2 : (y / 2 ^ 63 % 2 == 1) = false := by rw [Nat.div_eq_of_lt hy]; rfl
    rw [d1] at h; rw [d2]
    split at h
    · rename_i g; cases h; rw [if_pos g]; rfl
    · rename_i g
      split at h
      · rename_i g2; cases h; rw [if_neg g, if_pos g2]; rfl
      · split at h <;> cases h

theorem labs_num (x : Nat) (hx : x < 2 ^ 64) (h : Flo.Nm x) : Flo.Nm (labs x) ∧ Flo.W (labs x) = ra (Flo.W x) := by
  have o := Flo.order_num Ieee.double x 0 h zero_num.1
  rw [show Flo.V Ieee.double 0 = 0 from zero_num.2] at o
  unfold labs
  rw [show FloatKind.f64.format = Ieee.double from rfl]
  by_cases h1 : Ieee.double.order x 0 = some .lt
  · rw [if_pos h1]
    have hv := o.1.1 h1
    obtain ⟨s, m, p, hr⟩ := h
    have hn := neg_read x hx s m p hr
    refine ⟨⟨_, _, _, hn⟩, ?_⟩
    rw [show Flo.W (Op.negFloat .f64 x) = _ from Flo.V_eq hn, Flo.val_opp]
    unfold ra
    rw [if_pos hv, show Flo.W x = _ from Flo.V_eq hr]
  · rw [if_neg h1]
    have hv : ¬ Flo.V Ieee.double x < 0 := fun g => h1 (o.1.2 g)
    by_cases h2 : Ieee.double.order x 0 = some .eq
    · rw [if_pos h2]
      have hz := o.2.1.1 h2
      refine ⟨zero_num.1, ?_⟩
      rw [zero_num.2]; unfold ra; rw [if_neg hv]; exact hz.symm
    · rw [if_neg h2]
      exact ⟨h, by unfold ra; rw [if_neg hv]⟩

/-- the size, in double precision, of a finite number -/
def szd (x y : Nat) : Nat := (floatBits .add .f64 (labs x) (labs y)).getD 0
theorem szd_eq (x y : Nat) (hx : x < 2 ^ 64) (hy : y < 2 ^ 64) (fx : Flo.Nm x) (fy : Flo.Nm y) : floatBits .add .f64 (labs x) (labs y) = some (szd x y) := by
  obtain ⟨r, h, _⟩ := Flo.d_add_or (labs x) (labs y) (labs_num x hx fx).1 (labs_num y hy fy).1 _ ⟨by have := ra_nonneg (Flo.W x); have := ra_nonneg (Flo.W y); rw [(labs_num x hx fx).2, (labs_num y hy fy).2]; grind, Rat.le_refl⟩
  unfold szd; rw [h]; rfl
end Go.Proofs.YtjmignhcfmdcaaaDoor
