/- LimitNext as a plain function, but for the bits of NaN, and its walks, the program's and the model's.
   Conditions: those that each statement names. -/
import Derived.Test.YtcodiiajmffdoaaAbs
import Derived.Test.YtcodiiajmffdoaaInj
namespace Go.Proofs.Ytcodiiajmffdoaa
open Go Go.RowKit

/-- the absolute value, but for the bits of NaN -/
def absA (x : Nat) : Option Nat := if nan32 x then none else some (x % 2147483648)
def gtA (a b : Option Nat) : Bool := match a, b with | some a, some b => FloatKind.f32.format.order a b == some .gt | _, _ => false
theorem gt_fab (a b : Nat) : (FloatKind.f32.format.order a b == some .gt) = gtA (fab .f32 a) (fab .f32 b) := by
  cases ha : (FloatKind.f32.decode a).isNaN with
  | true =>
    rw [fab_none ha]
    show _ = false
    unfold Ieee.Format.order
    unfold FloatKind.decode at ha
    cases hd : FloatKind.f32.format.read a <;> rw [hd] at ha <;> simp [Ieee.Datum.isNaN] at ha
    simp [Ieee.Datum.order]
  | false =>
    rw [fab_some ha]
    cases hb : (FloatKind.f32.decode b).isNaN with
    | true =>
      rw [fab_none hb]
      show _ = false
      unfold Ieee.Format.order
      unfold FloatKind.decode at hb
      cases hd : FloatKind.f32.format.read b <;> rw [hd] at hb <;> simp [Ieee.Datum.isNaN] at hb
      cases FloatKind.f32.format.read a <;> simp [Ieee.Datum.order]
    | false => rw [fab_some hb]; rfl

/-- the word of an absolute value -/
theorem read_mod {x : Nat} : FloatKind.f32.decode (x % 2147483648) = match FloatKind.f32.decode x with | .number _ m p => .number false m p | .infinity _ => .infinity false | .nan _ f => .nan false f := by
  have e : Ieee.single.signWeight = 2147483648 := by decide
  show Ieee.single.read _ = match Ieee.single.read x with | .number _ m p => _ | .infinity _ => _ | .nan _ f => _
  unfold Ieee.Format.read
  simp only [e]
  have h1 : x % 2147483648 / 2147483648 = 0 := Nat.div_eq_of_lt (Nat.mod_lt _ (by decide))
  have h2 : x % 2147483648 % 2147483648 = x % 2147483648 := Nat.mod_mod _ _
  rw [h1, h2]
  split
  · rfl
  · split
    · rfl
    · split <;> rfl
theorem tw_word {p b x : Nat} (h : Tw p b) (lp : p < 2 ^ 32) (hx : nan32 x = false) (hb : b = labs (wid x)) : p = x % 2147483648 := by
  have esw : 2 * Ieee.single.signWeight = 2 ^ 32 := by decide
  have hm := read_mod (x := x)
  have lm : x % 2147483648 < 2 * Ieee.single.signWeight := by
    have := Nat.mod_lt x (show 2147483648 > 0 by decide)
    rw [esw]; omega
  cases hd : Ieee.single.read x with
  | nan s f => unfold nan32 at hx; rw [show FloatKind.f32.decode x = _ from hd] at hx; cases hx
  | infinity s =>
    rw [show FloatKind.f32.decode x = _ from hd] at hm
    have k := labs_inf (wid_lt x) (wid_inf hd)
    rw [← hb] at k
    rcases h with ⟨m, i, n, j, h1, h2, h3⟩ | ⟨h1, h2⟩
    · rw [k] at h2; cases h2
    · exact (Flo.inf_word _ h1 (by omega)).trans (Flo.inf_word _ (show Ieee.single.read _ = _ from hm) lm).symm
  | number s m i =>
    rw [show FloatKind.f32.decode x = _ from hd] at hm
    obtain ⟨n, j, hw, he⟩ := wid_read hd
    obtain ⟨n', j', l1, l2⟩ := labs_read (wid_lt x) hw
    rw [← hb] at l1
    rcases h with ⟨m1, i1, n1, j1, h1, h2, h3⟩ | ⟨h1, h2⟩
    · rw [l1] at h2; cases h2
      exact Flo.read_inj _ h1 (show Ieee.single.read _ = _ from hm) (by omega) lm (by rw [h3, l2, he])
    · rw [l1] at h2; cases h2

theorem implAbs_any (x : Nat) (h32 : x < 2 ^ 32) (w : World) :
    Calls Try.prog 56 #[.float .f32 x] w fun e w' => (∃ p, e = .returned (.float .f32 p) ∧ fab .f32 p = absA x ∧ p < 2 ^ 32) ∧ Nw w w' := by
  cases hx : nan32 x with
  | true =>
    have lt := fun w => fcv_wf w .f32 x .f64 (show x < 2 ^ FloatKind.f32.format.width from h32)
    have hn := fun w => nan_wide hx w
    go_enter Try.func56, Try.ntmps56
    go_wp2_with (go_at_call 61; refine (abs_any _ _ (lt _)).mono ?_; rintro e w' ⟨rfl, rfl⟩)
    all_goals (go_ret; exact ⟨⟨_, rfl, by rw [fab_none (nan_abs (hn _) _)]; unfold absA; rw [hx]; rfl, fcv_wf _ .f64 _ .f32 (Nat.lt_of_le_of_lt (Nat.mod_le _ _) (lt _))⟩, ⟨rfl, rfl, rfl, Nat.le_refl _, fun _ _ _ => rfl⟩⟩)
  | false =>
    have a1 := fcv_wide hx
    have a2 := fcd_wide hx
    have a3 := (tw_abs hx w).2
    have lt := wid_lt x
    go_enter Try.func56, Try.ntmps56
    go_wp2_with (go_at_call 61; refine (abs_any _ _ lt).mono ?_; rintro e w' ⟨rfl, rfl⟩)
    all_goals
      go_ret
      have l32 := fcv_wf w .f64 (wid x % signBit) .f32 (Nat.lt_of_le_of_lt (Nat.mod_le _ _) lt)
      refine ⟨⟨_, rfl, ?_, l32⟩, ⟨rfl, rfl, rfl, Nat.le_refl _, fun _ _ _ => rfl⟩⟩
      rw [fab_some (tw_abs hx w).1.nan.1]
      unfold absA
      rw [hx, tw_word (tw_abs hx w).1 l32 hx rfl]; rfl

/-- what the model narrows the absolute value to -/
theorem spec_abs (x : Nat) (h32 : x < 2 ^ 32) (w1 w2 : World) : fab .f32 (fcv w2 .f64 (labs (fcv w1 .f32 x .f64)) .f32) = absA x := by
  cases hx : nan32 x with
  | true =>
    have hn := nan_wide hx w1
    rw [nan_labs hn]
    unfold absA; rw [hx]
    refine fab_none ?_
    unfold nan64 at hn
    generalize fcv w1 .f32 x .f64 = z at hn ⊢
    cases hd : FloatKind.f64.decode z with
    | number s m p => rw [hd] at hn; cases hn
    | infinity s => rw [hd] at hn; cases hn
    | nan s f =>
      unfold fcv
      rw [if_neg (by decide), hd]
      exact nan_conv _ _ _
  | false =>
    rw [fcv_wide hx]
    have ht := (tw_abs hx w2).1
    have hl : labs (wid x) < 2 ^ 64 := by
      have := wid_lt x
      unfold labs
      split
      · unfold Op.negFloat
        exact Nat.xor_lt_two_pow this (by decide)
      · split
        · decide
        · exact this
    have l32 := fcv_wf w2 .f64 (labs (wid x)) .f32 hl
    have h2 : Tw (fcv w2 .f64 (labs (wid x)) .f32) (labs (wid x)) := by
      rcases ht with ⟨m, i, n, j, h1, h2, h3⟩ | ⟨h1, h2⟩
      · exact (tw_narrow h1 h2 h3.symm w2).1
      · exact (tw_narrow_inf h2 w2).1
    rw [fab_some h2.nan.1]
    unfold absA
    rw [hx, tw_word h2 l32 hx rfl]; rfl

/-! ### the step -/
def limE (e : Option Nat) (x r : Nat) : Option Nat := if gtA (absA x) (fA .mul .f32 e (fab .f32 r)) then absA x else fA .mul .f32 e (fab .f32 r)
def limY (e : Option Nat) (x c r : Nat) : Option Nat := if gtA (limE e x r) (fab .f32 c) then fA .quo .f32 (fA .mul .f32 (fab .f32 x) (fab .f32 c)) (limE e x r) else fab .f32 x
def LimNP (e x c r : Nat) (w : World) (en : Ending) (w' : World) : Prop :=
  ∃ y d, en = .returned (.tuple #[.float .f32 y, .float .f32 d]) ∧ fab .f32 y = limY (fab .f32 e) x c r ∧ fab .f32 d = limE (fab .f32 e) x r ∧ y < 2 ^ 32 ∧ d < 2 ^ 32 ∧ Nw w w'

set_option maxHeartbeats 1600000 in
theorem implLimit_ok (e x c r : Nat) (h32 : x < 2 ^ 32) (w : World) :
    Calls Try.prog 42 #[.float .f32 e, .float .f32 x, .float .f32 c, .float .f32 r] w (LimNP e x c r w) := by
  have hm : ∀ w, fab .f32 (fres w .mul .f32 e r) = fA .mul .f32 (fab .f32 e) (fab .f32 r) := fun w => fab_fres w .mul .f32 e r
  have Hm := Lib.hid hm
  clear hm
  have lm := Lib.hid (fun w => fres_wf w .mul .f32 e r)
  have lq := Lib.hid (fun w y z => fres_wf w .quo .f32 y z)
  go_enter Try.func42, Try.ntmps42
  go_wp2_with fail
  refine (implAbs_any x h32 _).mono ?_
  rintro en w1 ⟨⟨p, rfl, hp, lp⟩, n1⟩
  have N1 := Lib.hid (((Nw.refl w).draw _).trans n1)
  clear n1
  cases h1 : gtA (absA x) (fA .mul .f32 (fab .f32 e) (fab .f32 r)) with
  | true =>
    have hE : limE (fab .f32 e) x r = absA x := by unfold limE; rw [h1]; rfl
    have g1 : ∀ w, (FloatKind.f32.format.order p (fres w .mul .f32 e r) == some .gt) = true := fun w => by rw [gt_fab, hp, Hm.out, h1]
    cases h2 : gtA (absA x) (fab .f32 c) with
    | true =>
      have g2 : (FloatKind.f32.format.order p c == some .gt) = true := by rw [gt_fab, hp, h2]
      have hY : limY (fab .f32 e) x c r = fA .quo .f32 (fA .mul .f32 (fab .f32 x) (fab .f32 c)) (absA x) := by unfold limY; rw [hE, h2]; rfl
      have Hp := Lib.hid hp
      have HY := Lib.hid (And.intro hE hY)
      clear hp h1 h2 hE hY
      go_wp2_with fail
      all_goals
        go_ret2
        exact ⟨_, _, rfl, by rw [HY.out.2, fab_fres, fab_fres, Hp.out], by rw [HY.out.1, Hp.out], lq.out _ _ _, lp, N1.out.trans ⟨rfl, rfl, rfl, Nat.le_refl _, fun _ _ _ => rfl⟩⟩
    | false =>
      have g2 : (FloatKind.f32.format.order p c == some .gt) = false := by rw [gt_fab, hp, h2]
      have hY : limY (fab .f32 e) x c r = fab .f32 x := by unfold limY; rw [hE, h2]; rfl
      have Hp := Lib.hid hp
      have HY := Lib.hid (And.intro hE hY)
      clear hp h1 h2 hE hY
      go_wp2_with fail
      all_goals
        go_ret2
        exact ⟨_, _, rfl, by rw [HY.out.2], by rw [HY.out.1, Hp.out], h32, lp, N1.out.trans ⟨rfl, rfl, rfl, Nat.le_refl _, fun _ _ _ => rfl⟩⟩
  | false =>
    have hE : limE (fab .f32 e) x r = fA .mul .f32 (fab .f32 e) (fab .f32 r) := by unfold limE; rw [h1]; rfl
    have g1 : ∀ w, (FloatKind.f32.format.order p (fres w .mul .f32 e r) == some .gt) = false := fun w => by rw [gt_fab, hp, Hm.out, h1]
    cases h2 : gtA (fA .mul .f32 (fab .f32 e) (fab .f32 r)) (fab .f32 c) with
    | true =>
      have g2 : ∀ w, (FloatKind.f32.format.order (fres w .mul .f32 e r) c == some .gt) = true := fun w => by rw [gt_fab, Hm.out, h2]
      have hY : limY (fab .f32 e) x c r = fA .quo .f32 (fA .mul .f32 (fab .f32 x) (fab .f32 c)) (fA .mul .f32 (fab .f32 e) (fab .f32 r)) := by unfold limY; rw [hE, h2]; rfl
      have Hp := Lib.hid hp
      have HY := Lib.hid (And.intro hE hY)
      clear hp h1 h2 hE hY
      go_wp2_with fail
      all_goals
        go_ret2
        exact ⟨_, _, rfl, by rw [HY.out.2, fab_fres, fab_fres, Hm.out], by rw [HY.out.1, Hm.out], lq.out _ _ _, lm.out _, N1.out.trans ⟨rfl, rfl, rfl, Nat.le_refl _, fun _ _ _ => rfl⟩⟩
    | false =>
      have g2 : ∀ w, (FloatKind.f32.format.order (fres w .mul .f32 e r) c == some .gt) = false := fun w => by rw [gt_fab, Hm.out, h2]
      have hY : limY (fab .f32 e) x c r = fab .f32 x := by unfold limY; rw [hE, h2]; rfl
      have Hp := Lib.hid hp
      have HY := Lib.hid (And.intro hE hY)
      clear hp h1 h2 hE hY
      go_wp2_with fail
      all_goals
        go_ret2
        exact ⟨_, _, rfl, by rw [HY.out.2], by rw [HY.out.1, Hm.out], h32, lm.out _, N1.out.trans ⟨rfl, rfl, rfl, Nat.le_refl _, fun _ _ _ => rfl⟩⟩

theorem labs_lt {z : Nat} (h : z < 2 ^ 64) : labs z < 2 ^ 64 := by
  unfold labs
  split
  · unfold Op.negFloat
    exact Nat.xor_lt_two_pow h (by decide)
  · split
    · decide
    · exact h

set_option maxHeartbeats 1600000 in
theorem specLimit_ok (e x c r : Nat) (h32 : x < 2 ^ 32) (w : World) :
    Calls Try.prog 41 #[.float .f32 e, .float .f32 x, .float .f32 c, .float .f32 r] w (LimNP e x c r w) := by
  have hm : ∀ w, fab .f32 (fres w .mul .f32 e r) = fA .mul .f32 (fab .f32 e) (fab .f32 r) := fun w => fab_fres w .mul .f32 e r
  have Hm := Lib.hid hm
  clear hm
  have lm := Lib.hid (fun w => fres_wf w .mul .f32 e r)
  have lq := Lib.hid (fun w y z => fres_wf w .quo .f32 y z)
  go_enter Try.func41, Try.ntmps41
  have hp := fun w1 w2 => spec_abs x h32 w1 w2
  have lp := fun w1 w2 => fcv_wf w2 .f64 (labs (fcv w1 .f32 x .f64)) .f32 (labs_lt (fcv_wf w1 .f32 x .f64 (show x < 2 ^ FloatKind.f32.format.width from h32)))
  have Lp := Lib.hid lp
  clear lp
  cases h1 : gtA (absA x) (fA .mul .f32 (fab .f32 e) (fab .f32 r)) with
  | true =>
    have hE : limE (fab .f32 e) x r = absA x := by unfold limE; rw [h1]; rfl
    have g1 : ∀ w1 w2 w, (FloatKind.f32.format.order (fcv w2 .f64 (labs (fcv w1 .f32 x .f64)) .f32) (fres w .mul .f32 e r) == some .gt) = true := fun w1 w2 w => by rw [gt_fab, hp, Hm.out, h1]
    cases h2 : gtA (absA x) (fab .f32 c) with
    | true =>
      have g2 : ∀ w1 w2, (FloatKind.f32.format.order (fcv w2 .f64 (labs (fcv w1 .f32 x .f64)) .f32) c == some .gt) = true := fun w1 w2 => by rw [gt_fab, hp, h2]
      have hY : limY (fab .f32 e) x c r = fA .quo .f32 (fA .mul .f32 (fab .f32 x) (fab .f32 c)) (absA x) := by unfold limY; rw [hE, h2]; rfl
      have Hp := Lib.hid hp
      have HY := Lib.hid (And.intro hE hY)
      clear hp h1 h2 hE hY
      go_wp2_with (go_at_call 80; refine (l1Abs_any _ _).mono ?_; rintro en w' ⟨rfl, rfl⟩)
      all_goals
        go_ret2
        exact ⟨_, _, rfl, by rw [HY.out.2, fab_fres, fab_fres, Hp.out], by rw [HY.out.1, Hp.out], lq.out _ _ _, Lp.out _ _, (Nw.refl w).trans ⟨rfl, rfl, rfl, Nat.le_refl _, fun _ _ _ => rfl⟩⟩
    | false =>
      have g2 : ∀ w1 w2, (FloatKind.f32.format.order (fcv w2 .f64 (labs (fcv w1 .f32 x .f64)) .f32) c == some .gt) = false := fun w1 w2 => by rw [gt_fab, hp, h2]
      have hY : limY (fab .f32 e) x c r = fab .f32 x := by unfold limY; rw [hE, h2]; rfl
      have Hp := Lib.hid hp
      have HY := Lib.hid (And.intro hE hY)
      clear hp h1 h2 hE hY
      go_wp2_with (go_at_call 80; refine (l1Abs_any _ _).mono ?_; rintro en w' ⟨rfl, rfl⟩)
      all_goals
        go_ret2
        exact ⟨_, _, rfl, by rw [HY.out.2], by rw [HY.out.1, Hp.out], h32, Lp.out _ _, (Nw.refl w).trans ⟨rfl, rfl, rfl, Nat.le_refl _, fun _ _ _ => rfl⟩⟩
  | false =>
    have hE : limE (fab .f32 e) x r = fA .mul .f32 (fab .f32 e) (fab .f32 r) := by unfold limE; rw [h1]; rfl
    have g1 : ∀ w1 w2 w, (FloatKind.f32.format.order (fcv w2 .f64 (labs (fcv w1 .f32 x .f64)) .f32) (fres w .mul .f32 e r) == some .gt) = false := fun w1 w2 w => by rw [gt_fab, hp, Hm.out, h1]
    cases h2 : gtA (fA .mul .f32 (fab .f32 e) (fab .f32 r)) (fab .f32 c) with
    | true =>
      have g2 : ∀ w, (FloatKind.f32.format.order (fres w .mul .f32 e r) c == some .gt) = true := fun w => by rw [gt_fab, Hm.out, h2]
      have hY : limY (fab .f32 e) x c r = fA .quo .f32 (fA .mul .f32 (fab .f32 x) (fab .f32 c)) (fA .mul .f32 (fab .f32 e) (fab .f32 r)) := by unfold limY; rw [hE, h2]; rfl
      have Hp := Lib.hid hp
      have HY := Lib.hid (And.intro hE hY)
      clear hp h1 h2 hE hY
      go_wp2_with (go_at_call 80; refine (l1Abs_any _ _).mono ?_; rintro en w' ⟨rfl, rfl⟩)
      all_goals
        go_ret2
        exact ⟨_, _, rfl, by rw [HY.out.2, fab_fres, fab_fres, Hm.out], by rw [HY.out.1, Hm.out], lq.out _ _ _, lm.out _, (Nw.refl w).trans ⟨rfl, rfl, rfl, Nat.le_refl _, fun _ _ _ => rfl⟩⟩
    | false =>
      have g2 : ∀ w, (FloatKind.f32.format.order (fres w .mul .f32 e r) c == some .gt) = false := fun w => by rw [gt_fab, Hm.out, h2]
      have hY : limY (fab .f32 e) x c r = fab .f32 x := by unfold limY; rw [hE, h2]; rfl
      have Hp := Lib.hid hp
      have HY := Lib.hid (And.intro hE hY)
      clear hp h1 h2 hE hY
      go_wp2_with (go_at_call 80; refine (l1Abs_any _ _).mono ?_; rintro en w' ⟨rfl, rfl⟩)
      all_goals
        go_ret2
        exact ⟨_, _, rfl, by rw [HY.out.2], by rw [HY.out.1, Hm.out], h32, lm.out _, (Nw.refl w).trans ⟨rfl, rfl, rfl, Nat.le_refl _, fun _ _ _ => rfl⟩⟩

end Go.Proofs.Ytcodiiajmffdoaa
