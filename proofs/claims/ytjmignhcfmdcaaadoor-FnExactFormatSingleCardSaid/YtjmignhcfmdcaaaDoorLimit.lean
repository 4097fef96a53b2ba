/- Ceiling and release: what the program's isCeiling, isRelease and the model's l7Limits answer, of any numbers.
   Conditions: those that each statement names. -/
import Derived.Test.YtjmignhcfmdcaaaDoorFormS
import Derived.Test.YtjmignhcfmdcaaaDoorInj
namespace Go.Proofs.YtjmignhcfmdcaaaDoor
set_option linter.unusedSimpArgs false
set_option linter.unusedVariables false
open Go Go.RowKit

def ge0 (r : Nat) : Bool := FloatKind.f32.format.order r 0 == some .gt || FloatKind.f32.format.order r 0 == some .eq
def le1 (r : Nat) : Bool := FloatKind.f32.format.order r 1065353216 == some .lt || FloatKind.f32.format.order r 1065353216 == some .eq
def gt0 (c : Nat) : Bool := FloatKind.f32.format.order c 0 == some .gt
def lim (c r : Nat) : Bool := (gt0 c && fin .f32 c) && ((ge0 r && le1 r) && !(r == 2147483648))

/-- a release between 0 and 1 -/
theorem release_case {r : Nat} (hr : r < 2 ^ 32) (h0 : ge0 r = true) (h1 : le1 r = true) :
    r = 0 ∨ r = 2147483648 ∨ (r ≠ 0 ∧ r ≠ 2147483648 ∧ wid r < 2 ^ 63 ∧ ∃ m p, Ieee.double.read (wid r) = .number false m p ∧ m ≠ 0 ∧ (m : Rat) * Flo.pw p < Flo.pw 53) := by
  have hsw : Ieee.single.signWeight = 2147483648 := by decide
  have z0 : Ieee.single.read 0 = .number false 0 (-149) := by decide
  have z1 : Ieee.single.read 2147483648 = .number true 0 (-149) := by decide
  have o1 : Ieee.single.read 1065353216 = .number false 8388608 (-23) := by decide
  cases hd : Ieee.single.read r with
  | nan s f =>
    exfalso
    unfold ge0 FloatKind.format Ieee.Format.order at h0
    simp only [hd, z0, Ieee.Datum.order] at h0
    simp at h0
  | infinity s =>
    exfalso
    cases s with
    | true =>
      unfold ge0 FloatKind.format Ieee.Format.order at h0
      simp only [hd, z0, Ieee.Datum.order] at h0
      simp at h0
    | false =>
      unfold le1 FloatKind.format Ieee.Format.order at h1
      simp only [hd, o1, Ieee.Datum.order] at h1
      simp at h1
  | number s m p =>
    have a0 := Flo.order_num Ieee.single r 0 ⟨_, _, _, hd⟩ ⟨_, _, _, z0⟩
    have a1 := Flo.order_num Ieee.single r 1065353216 ⟨_, _, _, hd⟩ ⟨_, _, _, o1⟩
    rw [Flo.V_eq hd, Flo.V_eq z0, Flo.val_zero] at a0
    have v1 : Flo.V Ieee.single 1065353216 = 1 := by
      rw [Flo.V_eq o1]; unfold Flo.val
      have e := Flo.pw_neg_mul 23
      have e2 : Flo.pw 23 = 8388608 := Flo.pw_nat 23
      rw [e2] at e
      have e3 : ((8388608 : Nat) : Rat) = 8388608 := rfl
      rw [e3]; simp; grind
    rw [Flo.V_eq hd, v1] at a1
    have hv0 : 0 ≤ Flo.val s m p := by
      unfold ge0 at h0
      rw [Bool.or_eq_true, beq_iff_eq, beq_iff_eq] at h0
      rcases h0 with h | h
      · have := a0.2.2.1 h; grind
      · have := a0.2.1.1 h; grind
    have hv1 : Flo.val s m p ≤ 1 := by
      unfold le1 at h1
      rw [Bool.or_eq_true, beq_iff_eq, beq_iff_eq] at h1
      rcases h1 with h | h
      · have := a1.1.1 h; grind
      · have := a1.2.1.1 h; grind
    by_cases hm : m = 0
    · subst hm
      cases s with
      | false => exact .inl (Flo.read_inj Ieee.single hd z0 (by rw [hsw]; omega) (by rw [hsw]; omega) (by simp))
      | true => exact .inr (.inl (Flo.read_inj Ieee.single hd z1 (by rw [hsw]; omega) (by rw [hsw]; omega) (by simp)))
    · right; right
      have hmp : 0 < (m : Rat) * Flo.pw p := Rat.mul_pos (by exact_mod_cast Nat.pos_of_ne_zero hm) (Flo.pw_pos p)
      have hs : s = false := by
        cases s with
        | false => rfl
        | true => exfalso; unfold Flo.val at hv0; simp only [if_true] at hv0; grind
      subst hs
      obtain ⟨m', p', w1, w2⟩ := wid_read hd
      have hm' : m' ≠ 0 := by
        intro e; subst e
        rw [← w2] at hmp; simp at hmp
      refine ⟨?_, ?_, ?_, m', p', w1, hm', ?_⟩
      · intro e; subst e
        rw [z0] at hd; injection hd with _ e2 _; exact hm e2.symm
      · intro e; subst e
        rw [z1] at hd; injection hd with e2 _ _; cases e2
      · obtain ⟨g1, -⟩ := Flo.read_rung Ieee.double w1
        have hw := wid_lt r
        have hsd : Ieee.double.signWeight = 2 ^ 63 := by decide
        rw [hsd] at g1
        rcases Nat.lt_or_ge (wid r) (2 ^ 63) with g | g
        · exact g
        · exfalso
          have e : wid r / 2 ^ 63 = 1 := by omega
          rw [e] at g1
          cases g1
      · rw [w2]
        have : (m : Rat) * Flo.pw p ≤ 1 := by unfold Flo.val at hv1; simpa using hv1
        rw [Flo.p53]; grind

theorem wid_zero : wid 0 = 0 := by decide
theorem wid_minus : wid 2147483648 = 9223372036854775808 := by decide
theorem text_minus (xs : List Int) (d : Int) (rest : List Int) (h : xs = d :: rest) (h1 : 48 ≤ d) (h2 : d ≤ 57) : strOfNums xs ≠ (⟨#[45, 48]⟩ : ByteArray) := by
  subst h
  intro e
  have e1 := congrArg (fun b : ByteArray => b.data.toList.head?) e
  simp [strOfNums] at e1
  have e2 := congrArg UInt8.toNat e1
  simp at e2
  omega

/-- FormatSingle of a release between 0 and 1: '-0' for that alone -/
theorem specSingle_ok (r : Nat) (hr : r < 2 ^ 32) (h0 : ge0 r = true) (h1 : le1 r = true) (w : World) :
    Calls Tryd.prog 7 #[.float .f32 r] w fun e w' => (∃ s : ByteArray, e = .returned (.string s) ∧ ((r = 2147483648 ∧ s = ⟨#[45, 48]⟩) ∨ (r ≠ 2147483648 ∧ s ≠ ⟨#[45, 48]⟩))) ∧ Nw w w' := by
  rcases release_case hr h0 h1 with rfl | rfl | ⟨n0, n1, hlt, m, p, hd, hm, hB⟩
  · have a1 : ∀ w, fcv w .f32 0 .f64 = 0 := fun w => by rw [fcv_wide (by decide)]; exact wid_zero
    have a2 : fcd .f32 0 .f64 = 0 := fcd_wide (by decide)
    go_enter Tryd.func7, Tryd.ntmps7
    go_wp2_with fail
    refine (specFormat_zero _).mono ?_
    rintro e w1 ⟨rfl, n1⟩
    have N1 := Lib.hid n1
    clear n1
    go_wp2_with fail
    go_ret
    exact ⟨⟨_, rfl, .inr ⟨by decide, by decide⟩⟩, N1.out⟩
  · have a1 : ∀ w, fcv w .f32 2147483648 .f64 = 9223372036854775808 := fun w => by rw [fcv_wide (by decide)]; exact wid_minus
    have a2 : fcd .f32 2147483648 .f64 = 0 := fcd_wide (by decide)
    go_enter Tryd.func7, Tryd.ntmps7
    go_wp2_with fail
    refine (specFormat_minus _).mono ?_
    rintro e w1 ⟨rfl, n1⟩
    have N1 := Lib.hid n1
    clear n1
    go_wp2_with fail
    go_ret
    exact ⟨⟨_, rfl, .inl ⟨by first | rfl | trivial, rfl⟩⟩, N1.out⟩
  · have hn : nan32 r = false := by
      cases hx : nan32 r with
      | false => rfl
      | true =>
        exfalso
        unfold ge0 at h0
        unfold nan32 at hx
        unfold Ieee.Format.order at h0
        unfold FloatKind.decode at hx
        cases hq : FloatKind.f32.format.read r <;> rw [hq] at hx <;> simp [Ieee.Datum.isNaN] at hx
        simp [hq, Ieee.Datum.order] at h0
    have a1 := fcv_wide hn
    have a2 := fcd_wide hn
    go_enter Tryd.func7, Tryd.ntmps7
    go_wp2_with fail
    refine (specFormat_pos (wid r) m p hd hm hB _).mono ?_
    rintro e w1 ⟨a, q, -, -, -, -, -, rfl, g1⟩
    have N1 := Lib.hid g1
    clear g1
    obtain ⟨d, rest, he, d1, d2⟩ := dgs_head a
    have hs : strOfNums (dgs a ++ 112 :: numL q) ≠ (⟨#[45, 48]⟩ : ByteArray) := text_minus _ d (rest ++ 112 :: numL q) (by rw [he]; rfl) d1 d2
    generalize strOfNums (dgs a ++ 112 :: numL q) = s at *
    go_wp2_with fail
    go_ret
    exact ⟨⟨_, rfl, .inr ⟨n1, hs⟩⟩, N1.out⟩

theorem gt0_nan {c : Nat} (h : gt0 c = true) : nan32 c = false := by
  cases hx : nan32 c with
  | false => rfl
  | true =>
    exfalso
    unfold gt0 Ieee.Format.order at h
    unfold nan32 FloatKind.decode at hx
    cases hq : FloatKind.f32.format.read c <;> rw [hq] at hx <;> simp [Ieee.Datum.isNaN] at hx
    simp [hq, Ieee.Datum.order] at h

/-! ### the program's -/
theorem signbit_any (x : Nat) (hx : x < 2 ^ 64) (w : World) :
    Calls Tryd.prog 21 #[.float .f64 x] w fun e w' => e = .returned (.bool (decide (2 ^ 63 ≤ x))) ∧ w = w' := by
  have h1 := call_bits x
  by_cases h : 2 ^ 63 ≤ x
  · have hw : RowKit.wrap64 (x : Int) < 0 := by unfold RowKit.wrap64; omega
    go_enter Tryd.func21, Tryd.ntmps21
    go_wp2
    all_goals (go_ret; exact ⟨by simp [h, hw], rfl⟩)
  · have hw : ¬ RowKit.wrap64 (x : Int) < 0 := by unfold RowKit.wrap64; omega
    go_enter Tryd.func21, Tryd.ntmps21
    go_wp2
    all_goals (go_ret; exact ⟨by simp [h]; try omega, rfl⟩)
end Go.Proofs.YtjmignhcfmdcaaaDoor
