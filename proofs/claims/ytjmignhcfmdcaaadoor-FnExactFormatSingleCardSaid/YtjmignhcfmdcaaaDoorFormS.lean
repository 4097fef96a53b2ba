/- The model's FormatDouble and FormatSingle, of 0 and of numbers above 0 and below 2^53.
   Conditions: those that each statement names. -/
import Derived.Test.YtjmignhcfmdcaaaDoorParts
namespace Go.Proofs.YtjmignhcfmdcaaaDoor
set_option linter.unusedSimpArgs false
set_option linter.unusedVariables false
open Go Go.RowKit

set_option maxRecDepth 100000 in
theorem l1Num_any (z : Int) (hz : -2000 ≤ z ∧ z ≤ 2000) (w : World) :
    Calls Tryd.prog 19 #[.int .i64 z] w (StrP (numL z) w) := by
  by_cases h : z < 0
  · obtain ⟨k, hk⟩ := Int.eq_ofNat_of_zero_le (show 0 ≤ -z by omega)
    have e : z = -(k : Int) := by omega
    subst e
    have hl := dgs_len 17 k (by omega)
    have hadd : ∀ w, (Op.stringOp .add (⟨#[45]⟩ : ByteArray) (strOfNums (dgs k))).run Tryd.prog w = .ok (.string (strOfNums (45 :: dgs k))) w := fun w => by
      have e45 : (⟨#[45]⟩ : ByteArray) = strOfNums [45] := rfl
      rw [e45, run_string_add _ _ _ (by rw [strOfNums_size]; decide) (by rw [strOfNums_size]; omega), str_cons]
    have hneg : - -(k : Int) = (k : Int) := by omega
    clear hl
    go_enter Tryd.func19, Tryd.ntmps19
    go_wp2_with (first | (go_at_call 19; refine (l1Number_ok k (by omega) _).mono ?_; rintro e w1 ⟨rfl, n1⟩; have N1 := Lib.hid n1; clear n1))
    all_goals
      go_ret
      exact ⟨by unfold numL; rw [if_pos h]; simp, N1.out⟩
  · obtain ⟨k, rfl⟩ := Int.eq_ofNat_of_zero_le (show 0 ≤ z by omega)
    refine (l1Number_ok k (by omega) w).mono ?_
    rintro e w1 ⟨rfl, n1⟩
    exact ⟨by unfold numL; rw [if_neg h]; simp, n1⟩
theorem numL_len (z : Int) (hz : -2000 ≤ z ∧ z ≤ 2000) : (numL z).length ≤ 19 := by
  unfold numL
  have := dgs_len 17 z.natAbs (by omega)
  split
  · simp; omega
  · omega

/-- the text of a number above 0: its odd part, 'p', its exponent -/
def FmtP (V : Rat) (w : World) (e : Ending) (w' : World) : Prop :=
  ∃ (a : Nat) (q : Int), a % 2 = 1 ∧ a < 9007199254740992 ∧ (a : Rat) * Flo.pw q = V ∧ -2000 ≤ q ∧ q ≤ 2000 ∧ e = .returned (.string (strOfNums (dgs a ++ 112 :: numL q))) ∧ Nw w w'

set_option maxRecDepth 100000 in
theorem specFormat_pos (x m : Nat) (p : Int) (h : Ieee.double.read x = .number false m p) (hm : m ≠ 0) (hB : (m : Rat) * Flo.pw p < Flo.pw 53) (w : World) :
    Calls Tryd.prog 9 #[.float .f64 x] w (FmtP ((m : Rat) * Flo.pw p) w) := by
  have o := Flo.order_num Ieee.double x 0 ⟨_, _, _, h⟩ zero_num.1
  rw [show Flo.V Ieee.double 0 = 0 from zero_num.2, Flo.V_eq h] at o
  have hpos : 0 < Flo.val false m p := by
    unfold Flo.val
    have h1 : (0 : Rat) < (m : Rat) := by exact_mod_cast Nat.pos_of_ne_zero hm
    have := Rat.mul_pos h1 (Flo.pw_pos p)
    simp; exact this
  have hgt : FloatKind.f64.format.order x 0 = some .gt := o.2.2.2 hpos
  have e1 : (FloatKind.f64.format.order x 0 == some .eq) = false := by rw [hgt]; rfl
  have e2 : (FloatKind.f64.format.order x 0 == some .lt) = false := by rw [hgt]; rfl
  have hl : labs x = x := by unfold labs; rw [hgt]; rfl
  have hf : fin .f64 x = true := fin_num ⟨_, _, _, h⟩
  have H := Lib.hid (And.intro h (And.intro hm hB))
  clear h hm hB o hpos hgt
  go_enter Tryd.func9, Tryd.ntmps9
  go_wp2_with fail
  refine (l1Finite_any _ _).mono ?_
  rintro e w1 ⟨rfl, n1, rfl⟩
  rw [hf]
  go_wp2_with fail
  refine (l1Abs_any _ _).mono ?_
  rintro e w2 ⟨rfl, rfl⟩
  rw [hl]
  go_wp2_with fail
  refine (l1Parts_ok x m p H.out.1 H.out.2.1 H.out.2.2 _).mono ?_
  rintro e w3 ⟨a, q, rfl, ha, ha53, hv, hq1, hq2, rfl⟩
  have A := Lib.hid (And.intro ha (And.intro ha53 hv))
  have l1 := dgs_len 17 a (by omega)
  have l2 := numL_len q ⟨hq1, hq2⟩
  have c1 : ∀ w, (Op.stringOp .add (⟨#[]⟩ : ByteArray) (strOfNums (dgs a))).run Tryd.prog w = .ok (.string (strOfNums (dgs a))) w := fun w => by
    have e0 : (⟨#[]⟩ : ByteArray) = strOfNums [] := rfl
    rw [e0, run_string_add _ _ _ (by rw [strOfNums_size]; decide) (by rw [strOfNums_size]; omega), str_app]; rfl
  have c2 : ∀ w, (Op.stringOp .add (strOfNums (dgs a)) (⟨#[112]⟩ : ByteArray)).run Tryd.prog w = .ok (.string (strOfNums (dgs a ++ [112]))) w := fun w => by
    have e0 : (⟨#[112]⟩ : ByteArray) = strOfNums [112] := rfl
    rw [e0, run_string_add _ _ _ (by rw [strOfNums_size]; omega) (by rw [strOfNums_size]; decide), str_app]
  have c3 : ∀ w, (Op.stringOp .add (strOfNums (dgs a ++ [112])) (strOfNums (numL q))).run Tryd.prog w = .ok (.string (strOfNums (dgs a ++ 112 :: numL q))) w := fun w => by
    rw [run_string_add _ _ _ (by rw [strOfNums_size, List.length_append]; simp; omega) (by rw [strOfNums_size]; omega), str_app]; simp
  clear ha ha53 hv l1 l2
  go_wp2_with fail
  refine (l1Number_ok a (by have := A.out.2.1; omega) _).mono ?_
  rintro e w4 ⟨rfl, n4⟩
  have N4 := Lib.hid (((Nw.refl w).draw _).trans n4)
  clear n4
  go_wp2_with fail
  refine (l1Num_any q ⟨hq1, hq2⟩ _).mono ?_
  rintro e w5 ⟨rfl, n5⟩
  have N5 := Lib.hid (N4.out.trans n5)
  clear n5
  go_wp2_with fail
  go_ret
  exact ⟨a, q, A.out.1, A.out.2.1, A.out.2.2, hq1, hq2, rfl, N5.out⟩

set_option maxRecDepth 100000 in
theorem specFormat_zero (w : World) : Calls Tryd.prog 9 #[.float .f64 0] w fun e w' => e = .returned (.string ⟨#[48]⟩) ∧ Nw w w' := by
  have hf : fin .f64 0 = true := by decide
  have e1 : (FloatKind.f64.format.order 0 0 == some .eq) = true := by decide
  have r1 : ∀ w, fres w .quo .f64 4607182418800017408 0 = 9218868437227405312 := fun w => by unfold fres; rw [show floatBits .quo .f64 4607182418800017408 0 = some 9218868437227405312 from by decide]
  have r2 : fdr .quo .f64 4607182418800017408 0 = 0 := by decide
  have e2 : (FloatKind.f64.format.order 9218868437227405312 0 == some .lt) = false := by decide
  go_enter Tryd.func9, Tryd.ntmps9
  go_wp2_with fail
  refine (l1Finite_any _ _).mono ?_
  rintro e w1 ⟨rfl, n1, rfl⟩
  rw [hf]
  go_wp2_with fail
  all_goals
    go_ret
    exact ⟨rfl, (Nw.refl w).draw _⟩
set_option maxRecDepth 100000 in
theorem specFormat_minus (w : World) : Calls Tryd.prog 9 #[.float .f64 9223372036854775808] w fun e w' => e = .returned (.string ⟨#[45, 48]⟩) ∧ Nw w w' := by
  have hf : fin .f64 9223372036854775808 = true := by decide
  have e1 : (FloatKind.f64.format.order 9223372036854775808 0 == some .eq) = true := by decide
  have r1 : ∀ w, fres w .quo .f64 4607182418800017408 9223372036854775808 = 18442240474082181120 := fun w => by unfold fres; rw [show floatBits .quo .f64 4607182418800017408 9223372036854775808 = some 18442240474082181120 from by decide]
  have r2 : fdr .quo .f64 4607182418800017408 9223372036854775808 = 0 := by decide
  have e2 : (FloatKind.f64.format.order 18442240474082181120 0 == some .lt) = true := by decide
  go_enter Tryd.func9, Tryd.ntmps9
  go_wp2_with fail
  refine (l1Finite_any _ _).mono ?_
  rintro e w1 ⟨rfl, n1, rfl⟩
  rw [hf]
  go_wp2_with fail
  all_goals
    go_ret
    exact ⟨rfl, (Nw.refl w).draw _⟩

end Go.Proofs.YtjmignhcfmdcaaaDoor
