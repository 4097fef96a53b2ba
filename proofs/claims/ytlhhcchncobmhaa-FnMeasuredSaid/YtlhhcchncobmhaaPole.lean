/- The walks of MakePole, MakeStart and MakeSameComplex: what they draw, and what they say.
   Conditions: those that each statement names. -/
import Derived.Test.YtlhhcchncobmhaaRec
import Derived.Test.YtlhhcchncobmhaaDy
namespace Go.Proofs.Ytlhhcchncobmhaa
set_option linter.unusedSimpArgs false
set_option linter.unusedVariables false
open Go Go.RowKit

theorem sameB_fab {a b : Nat} (h : fab .f64 a = fab .f64 b) : sameB a b = true := by
  by_cases ha : (FloatKind.f64.decode a).isNaN = true
  · have hb : (FloatKind.f64.decode b).isNaN = true := by
      by_cases hb : (FloatKind.f64.decode b).isNaN = true
      · exact hb
      · rw [fab_none ha, fab_some (by simpa using hb)] at h; cases h
    unfold sameB; rw [ha, hb]; rfl
  · have ha' : (FloatKind.f64.decode a).isNaN = false := by simpa using ha
    by_cases hb : (FloatKind.f64.decode b).isNaN = true
    · rw [fab_some ha', fab_none hb] at h; cases h
    · rw [fab_some ha', fab_some (by simpa using hb)] at h
      cases h
      exact sameB_self a

set_option maxRecDepth 100000 in
theorem makeSameComplex_any (a b c d : Nat) (w : World) :
    Calls Try.prog 21 #[.complex .f64 a b, .complex .f64 c d] w fun e w' => e = .returned (.bool (sameB a c && sameB b d)) ∧ w = w' := by
  obtain ⟨p, hp⟩ : ∃ p, p = sameB a c := ⟨_, rfl⟩
  obtain ⟨q, hq⟩ : ∃ q, q = sameB b d := ⟨_, rfl⟩
  have r1 := l8Same_any a c
  have r2 := l8Same_any b d
  rw [← hp] at r1
  rw [← hq] at r2
  rw [← hp, ← hq]
  clear hp hq
  go_enter Try.func21, Try.ntmps21
  go_wp2_with fail
  refine (r1 _).mono ?_
  rintro e w1 ⟨rfl, rfl⟩
  cases p
  · go_wp2_with fail
    go_ret
    exact ⟨rfl, rfl⟩
  · go_wp2_with fail
    refine (r2 _).mono ?_
    rintro e w1 ⟨rfl, rfl⟩
    go_wp2_with fail
    go_ret
    exact ⟨by simp, rfl⟩

/-! ### what a pole is made of -/
theorem floatBits_wf' {op : BinOp} {x y r : Nat} (h : floatBits op .f64 x y = some r) : r < 2 ^ 64 := by have := floatBits_wf h; simpa [Lit.wf] using this
theorem read_1024 : Ieee.double.read 4652218415073722368 = .number false 4503599627370496 (10 - 52) := by decide
theorem read_16 : Ieee.double.read 4625196817309499392 = .number false 4503599627370496 (4 - 52) := by decide
def tenB (i : Int) : Nat := (floatBits .quo .f64 (floatOfInt .f64 i) 4652218415073722368).getD 0
theorem tenB_ok (i : Int) (h : i.natAbs < 9007199254740992) : floatBits .quo .f64 (floatOfInt .f64 i) 4652218415073722368 = some (tenB i) ∧ Flo.Dy (-10) i (tenB i) := by
  obtain ⟨r, h1, h2⟩ := Flo.dy_div (Flo.dy_int i h) read_1024 h (by omega) (by omega)
  unfold tenB
  rw [h1]
  exact ⟨rfl, h2⟩
theorem tenB_lt (i : Int) (h : i.natAbs < 9007199254740992) : tenB i < 2 ^ 64 := floatBits_wf' (tenB_ok i h).1
def sixB (i : Int) : Nat := (floatBits .quo .f64 (floatOfInt .f64 i) 4625196817309499392).getD 0
theorem sixB_ok (i : Int) (h : i.natAbs < 9007199254740992) : floatBits .quo .f64 (floatOfInt .f64 i) 4625196817309499392 = some (sixB i) ∧ Flo.Dy (-4) i (sixB i) := by
  obtain ⟨r, h1, h2⟩ := Flo.dy_div (Flo.dy_int i h) read_16 h (by omega) (by omega)
  unfold sixB
  rw [h1]
  exact ⟨rfl, h2⟩

def PoleB (x y : Nat) : Prop :=
  (∃ i j : Int, i.natAbs ≤ 724 ∧ j.natAbs ≤ 724 ∧ x = tenB i ∧ y = tenB j ∧ (FloatKind.f64.format.order (szd x y) 4598175219545276416 == some .lt) = false) ∨ (x = 4603579539098121011 ∧ y = 13828753015803845018)
theorem PoleB.wz {x y : Nat} (h : PoleB x y) : Wz (x, y) := by
  rcases h with ⟨i, j, hi, hj, rfl, rfl, -⟩ | ⟨rfl, rfl⟩
  · exact ⟨tenB_lt i (by omega), tenB_lt j (by omega)⟩
  · exact ⟨by decide, by decide⟩
def PoleP (w : World) (e : Ending) (w' : World) : Prop := ∃ x y, e = .returned (.complex .f64 x y) ∧ PoleB x y ∧ Below w.heap.size w w'

theorem ten_run (i : Int) (h : i.natAbs < 9007199254740992) : (∀ w, fres w .quo .f64 (floatOfInt .f64 i) 4652218415073722368 = tenB i) ∧ fdr .quo .f64 (floatOfInt .f64 i) 4652218415073722368 = 0 := by
  have q := (tenB_ok i h).1
  exact ⟨fun w => by unfold fres; rw [q], by unfold fdr; rw [q]; rfl⟩

set_option maxRecDepth 100000 in
theorem makePole_any (a : Option Addr) (len cap : Nat) (w : World) (hb : Bys w.heap.size a len w) :
    Calls Try.prog 18 #[.slice a len cap] w (PoleP w) := by
  have Hb := Lib.hid hb
  clear hb
  go_enter Try.func18, Try.ntmps18
  go_wp2_with fail
  refine (l01New_any _ _ _ _ Hb.out).mono ?_
  rintro e w1 ⟨rfl, hat⟩
  go_wp2_with (go_at_call 51; refine (below_at _ _ _ _ _ _ _ (by omega) (by omega) _ (by assumption)).mono ?_; rintro e w2 ⟨x, x0, x1, rfl, hat⟩; have ht := ten_run (x - 724) (by omega); obtain ⟨f1, d1⟩ := ht)
  refine (sizeDouble_fin _ _ _ (tenB_lt _ (by omega)) (tenB_lt _ (by omega)) (tenB_ok _ (by omega)).2.1 (tenB_ok _ (by omega)).2.1).mono ?_
  rintro e w3 ⟨rfl, n3, rfl⟩
  have Hat := Lib.hid (show Below w.heap.size w w2 from hat.below (Nat.le_refl _))
  go_wp2_with fail
  all_goals
    go_ret
    first
      | exact ⟨_, _, rfl, .inr ⟨rfl, rfl⟩, below_drewN Hat.out _⟩
      | exact ⟨_, _, rfl, .inl ⟨_, _, by omega, by omega, rfl, rfl, by assumption⟩, below_drewN Hat.out _⟩

end Go.Proofs.Ytlhhcchncobmhaa
