/- Plain facts on any numbers of single precision, NaN and infinities among them: widened, narrowed again, ordered; and on what sameFloat answers. No program stands in it.
   Conditions: those that each statement names. -/
import Derived.Test.YtjmignhcfmdcaaaDoorSps
import Derived.Test.YtjmignhcfmdcaaaDoorNum
namespace Go.Proofs.YtjmignhcfmdcaaaDoor
set_option linter.unusedSimpArgs false
set_option linter.unusedVariables false
open Go

def nan32 (b : Nat) : Bool := (FloatKind.f32.decode b).isNaN
def nan64 (b : Nat) : Bool := (FloatKind.f64.decode b).isNaN

/-- are two numbers the same: NaN and NaN, zeros of one sign, or equal ones -/
def sameF (a b : Nat) : Bool :=
  if nan64 a || nan64 b then nan64 a && nan64 b
  else if (FloatKind.f64.format.order a 0 == some .eq) && (FloatKind.f64.format.order b 0 == some .eq) then
    (FloatKind.f64.format.order ((floatBits .quo .f64 4607182418800017408 a).getD 0) 0 == some .gt) == (FloatKind.f64.format.order ((floatBits .quo .f64 4607182418800017408 b).getD 0) 0 == some .gt)
  else FloatKind.f64.format.order a b == some .eq
theorem sameF_self (a : Nat) : sameF a a = true := by
  unfold sameF
  cases ha : nan64 a
  · have o1 := order_self .f64 a
    rw [show (FloatKind.f64.decode a).isNaN = false from ha] at o1
    simp only [Bool.or_self, Bool.false_eq_true, if_false, beq_self_eq_true]
    split
    · rfl
    · simpa using o1
  · simp
/-- the same but for the bits of NaN -/
theorem sameF_fab {a b : Nat} (h : fab .f64 a = fab .f64 b) : sameF a b = true := by
  cases ha : nan64 a
  · cases hb : nan64 b
    · rw [fab_some ha, fab_some hb] at h
      cases h
      exact sameF_self a
    · rw [fab_some ha, fab_none hb] at h; cases h
  · cases hb : nan64 b
    · rw [fab_none ha, fab_some hb] at h; cases h
    · unfold sameF; rw [ha, hb]; rfl

theorem wid_inf {b : Nat} {s : Bool} (h : Ieee.single.read b = .infinity s) : Ieee.double.read (wid b) = .infinity s := by
  unfold wid FloatKind.encode FloatKind.decode
  rw [show FloatKind.f32.format = Ieee.single from rfl, h]
  show Ieee.double.read (Ieee.double.word s Ieee.double.infRung) = _
  rw [Flo.read_word_inf, if_neg (by decide)]
theorem fcv_wide {b : Nat} (h : nan32 b = false) (w : World) : fcv w .f32 b .f64 = wid b := by
  cases hd : Ieee.single.read b with
  | number s m p => exact fcv_up ⟨s, m, p, hd⟩ w
  | infinity s =>
    have hd' : FloatKind.f32.decode b = .infinity s := hd
    unfold fcv wid
    rw [if_neg (by decide), hd']
  | nan s f =>
    have hd' : FloatKind.f32.decode b = .nan s f := hd
    unfold nan32 at h; rw [hd'] at h; cases h
theorem fcd_wide {b : Nat} (h : nan32 b = false) : fcd .f32 b .f64 = 0 := by
  cases hd : Ieee.single.read b with
  | number s m p => exact fcd_up ⟨s, m, p, hd⟩
  | infinity s =>
    have hd' : FloatKind.f32.decode b = .infinity s := hd
    unfold fcd
    rw [if_neg (by decide), hd']
  | nan s f =>
    have hd' : FloatKind.f32.decode b = .nan s f := hd
    unfold nan32 at h; rw [hd'] at h; cases h
theorem nan_wide {b : Nat} (h : nan32 b = true) (w : World) : nan64 (fcv w .f32 b .f64) = true := by
  unfold nan32 at h
  cases hd : FloatKind.f32.decode b with
  | number s m p => rw [hd] at h; cases h
  | infinity s => rw [hd] at h; cases h
  | nan s f =>
    unfold fcv
    rw [if_neg (by decide), hd]
    exact nan_conv _ _ _
theorem wid_nan {b : Nat} (h : nan32 b = false) : nan64 (wid b) = false := by
  unfold nan64
  cases hd : Ieee.single.read b with
  | number s m p =>
    obtain ⟨m', p', h1, -⟩ := wid_read hd
    rw [show FloatKind.f64.decode (wid b) = _ from h1]; rfl
  | infinity s => rw [show FloatKind.f64.decode (wid b) = _ from wid_inf hd]; rfl
  | nan s f => unfold nan32 at h; rw [show FloatKind.f32.decode b = _ from hd] at h; cases h
/-- what a number of single precision is, widened: none for NaN -/
def wA (b : Nat) : Option Nat := if nan32 b then none else some (wid b)
theorem fab_wide (b : Nat) (w : World) : fab .f64 (fcv w .f32 b .f64) = wA b := by
  unfold wA
  cases h : nan32 b
  · rw [fcv_wide h w, fab_some (wid_nan h)]; rfl
  · rw [fab_none (nan_wide h w)]; rfl

/-! ### order -/
theorem order_wide {a b : Nat} (ha : nan32 a = false) (hb : nan32 b = false) : FloatKind.f64.format.order (wid a) (wid b) = FloatKind.f32.format.order a b := by
  show Ieee.double.order (wid a) (wid b) = Ieee.single.order a b
  cases h1 : Ieee.single.read a with
  | nan s f => unfold nan32 at ha; rw [show FloatKind.f32.decode a = _ from h1] at ha; cases ha
  | infinity s =>
    have k1 := wid_inf h1
    cases h2 : Ieee.single.read b with
    | nan s f => unfold nan32 at hb; rw [show FloatKind.f32.decode b = _ from h2] at hb; cases hb
    | infinity t => unfold Ieee.Format.order; rw [k1, wid_inf h2, h1, h2]; try rfl
    | number t n j =>
      obtain ⟨m', p', k2, -⟩ := wid_read h2
      unfold Ieee.Format.order; rw [k1, k2, h1, h2]; try rfl
  | number s m i =>
    obtain ⟨m', p', k1, e1⟩ := wid_read h1
    cases h2 : Ieee.single.read b with
    | nan s f => unfold nan32 at hb; rw [show FloatKind.f32.decode b = _ from h2] at hb; cases hb
    | infinity t => unfold Ieee.Format.order; rw [k1, wid_inf h2, h1, h2]; try rfl
    | number t n j =>
      have sa : Sm a := ⟨_, _, _, h1⟩
      have sb : Sm b := ⟨_, _, _, h2⟩
      have o := Flo.order_num Ieee.single a b sa sb
      have O := Flo.order_num Ieee.double (wid a) (wid b) (wid_num sa).1 (wid_num sb).1
      have va : Flo.V Ieee.double (wid a) = Flo.V Ieee.single a := (wid_num sa).2
      have vb : Flo.V Ieee.double (wid b) = Flo.V Ieee.single b := (wid_num sb).2
      rw [va, vb] at O
      have hs : ∃ r, Ieee.single.order a b = some r := by unfold Ieee.Format.order; rw [h1, h2]; exact ⟨_, rfl⟩
      obtain ⟨r, hr⟩ := hs
      rw [hr]
      cases r
      · exact O.1.2 (o.1.1 hr)
      · exact O.2.1.2 (o.2.1.1 hr)
      · exact O.2.2.2 (o.2.2.1 hr)

end Go.Proofs.YtjmignhcfmdcaaaDoor
