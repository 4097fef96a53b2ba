/- Texts of a proof, put together: Wide, Tw, Abs, BowI, BowW, Fit, NegS, Shape, Strike, StrikeB, RoomI, RoomB, RoomC, Row, Fls, En, Loud, LoudS.
   Conditions: those that each statement names. -/
import Derived.Test.YtamboboncpjodaaKFnLoudest3
import Derived.Laws.Cover2
import Derived.ProofKit
import Derived.OpenShut
import Derived.ShutString
import Derived.ChangeOld
/- Plain facts on any numbers of single precision, NaN and infinities among them: widened, narrowed again, ordered; and on what sameFloat answers. No program stands in it.
   Conditions: those that each statement names. -/
namespace Go.Proofs.Ytamboboncpjodaa
open Go

def nan32 (b : Nat) : Bool := (FloatKind.f32.decode b).isNaN
def nan64 (b : Nat) : Bool := (FloatKind.f64.decode b).isNaN

/-- are two numbers the same: NaN and NaN, zeros of one sign, or equal ones -/
def sameF (a b : Nat) : Bool :=
  if nan64 a || nan64 b then nan64 a && nan64 b
  else if (FloatKind.f64.format.order a 0 == some .eq) && (FloatKind.f64.format.order b 0 == some .eq) then
    (FloatKind.f64.format.order ((floatBits .quo .f64 4607182418800017408 a).getD 0) 0 == some .gt) == (FloatKind.f64.format.order ((floatBits .quo .f64 4607182418800017408 b).getD 0) 0 == some .gt)
  else FloatKind.f64.format.order a b == some .eq
theorem sameF_self (a : Nat) : sameF a a = true := by
  unfold sameF
  cases ha : nan64 a
  · have o1 := order_self .f64 a
    rw [show (FloatKind.f64.decode a).isNaN = false from ha] at o1
    simp only [Bool.or_self, Bool.false_eq_true, if_false, beq_self_eq_true]
    split
    · rfl
    · simpa using o1
  · simp
/-- the same but for the bits of NaN -/
theorem sameF_fab {a b : Nat} (h : fab .f64 a = fab .f64 b) : sameF a b = true := by
  cases ha : nan64 a
  · cases hb : nan64 b
    · rw [fab_some ha, fab_some hb] at h
      cases h
      exact sameF_self a
    · rw [fab_some ha, fab_none hb] at h; cases h
  · cases hb : nan64 b
    · rw [fab_none ha, fab_some hb] at h; cases h
    · unfold sameF; rw [ha, hb]; rfl

theorem wid_inf {b : Nat} {s : Bool} (h : Ieee.single.read b = .infinity s) : Ieee.double.read (wid b) = .infinity s := by
  unfold wid FloatKind.encode FloatKind.decode
  rw [show FloatKind.f32.format = Ieee.single from rfl, h]
  show Ieee.double.read (Ieee.double.word s Ieee.double.infRung) = _
  rw [Flo.read_word_inf, if_neg (by decide)]
theorem fcv_wide {b : Nat} (h : nan32 b = false) (w : World) : fcv w .f32 b .f64 = wid b := by
  cases hd : Ieee.single.read b with
  | number s m p => exact fcv_up ⟨s, m, p, hd⟩ w
  | infinity s =>
    have hd' : FloatKind.f32.decode b = .infinity s := hd
    unfold fcv wid
    rw [if_neg (by decide), hd']
  | nan s f =>
    have hd' : FloatKind.f32.decode b = .nan s f := hd
    unfold nan32 at h; rw [hd'] at h; cases h
theorem fcd_wide {b : Nat} (h : nan32 b = false) : fcd .f32 b .f64 = 0 := by
  cases hd : Ieee.single.read b with
  | number s m p => exact fcd_up ⟨s, m, p, hd⟩
  | infinity s =>
    have hd' : FloatKind.f32.decode b = .infinity s := hd
    unfold fcd
    rw [if_neg (by decide), hd']
  | nan s f =>
    have hd' : FloatKind.f32.decode b = .nan s f := hd
    unfold nan32 at h; rw [hd'] at h; cases h
theorem nan_wide {b : Nat} (h : nan32 b = true) (w : World) : nan64 (fcv w .f32 b .f64) = true := by
  unfold nan32 at h
  cases hd : FloatKind.f32.decode b with
  | number s m p => rw [hd] at h; cases h
  | infinity s => rw [hd] at h; cases h
  | nan s f =>
    unfold fcv
    rw [if_neg (by decide), hd]
    exact nan_conv _ _ _
theorem wid_nan {b : Nat} (h : nan32 b = false) : nan64 (wid b) = false := by
  unfold nan64
  cases hd : Ieee.single.read b with
  | number s m p =>
    obtain ⟨m', p', h1, -⟩ := wid_read hd
    rw [show FloatKind.f64.decode (wid b) = _ from h1]; rfl
  | infinity s => rw [show FloatKind.f64.decode (wid b) = _ from wid_inf hd]; rfl
  | nan s f => unfold nan32 at h; rw [show FloatKind.f32.decode b = _ from hd] at h; cases h
/-- what a number of single precision is, widened: none for NaN -/
def wA (b : Nat) : Option Nat := if nan32 b then none else some (wid b)
theorem fab_wide (b : Nat) (w : World) : fab .f64 (fcv w .f32 b .f64) = wA b := by
  unfold wA
  cases h : nan32 b
  · rw [fcv_wide h w, fab_some (wid_nan h)]; rfl
  · rw [fab_none (nan_wide h w)]; rfl

/-! ### order -/
theorem order_wide {a b : Nat} (ha : nan32 a = false) (hb : nan32 b = false) : FloatKind.f64.format.order (wid a) (wid b) = FloatKind.f32.format.order a b := by
  show Ieee.double.order (wid a) (wid b) = Ieee.single.order a b
  cases h1 : Ieee.single.read a with
  | nan s f => unfold nan32 at ha; rw [show FloatKind.f32.decode a = _ from h1] at ha; cases ha
  | infinity s =>
    have k1 := wid_inf h1
    cases h2 : Ieee.single.read b with
    | nan s f => unfold nan32 at hb; rw [show FloatKind.f32.decode b = _ from h2] at hb; cases hb
    | infinity t => unfold Ieee.Format.order; rw [k1, wid_inf h2, h1, h2]; try rfl
    | number t n j =>
      obtain ⟨m', p', k2, -⟩ := wid_read h2
      unfold Ieee.Format.order; rw [k1, k2, h1, h2]; try rfl
  | number s m i =>
    obtain ⟨m', p', k1, e1⟩ := wid_read h1
    cases h2 : Ieee.single.read b with
    | nan s f => unfold nan32 at hb; rw [show FloatKind.f32.decode b = _ from h2] at hb; cases hb
    | infinity t => unfold Ieee.Format.order; rw [k1, wid_inf h2, h1, h2]; try rfl
    | number t n j =>
      have sa : Sm a := ⟨_, _, _, h1⟩
      have sb : Sm b := ⟨_, _, _, h2⟩
      have o := Flo.order_num Ieee.single a b sa sb
      have O := Flo.order_num Ieee.double (wid a) (wid b) (wid_num sa).1 (wid_num sb).1
      have va : Flo.V Ieee.double (wid a) = Flo.V Ieee.single a := (wid_num sa).2
      have vb : Flo.V Ieee.double (wid b) = Flo.V Ieee.single b := (wid_num sb).2
      rw [va, vb] at O
      have hs : ∃ r, Ieee.single.order a b = some r := by unfold Ieee.Format.order; rw [h1, h2]; exact ⟨_, rfl⟩
      obtain ⟨r, hr⟩ := hs
      rw [hr]
      cases r
      · exact O.1.2 (o.1.1 hr)
      · exact O.2.1.2 (o.2.1.1 hr)
      · exact O.2.2.2 (o.2.2.1 hr)

end Go.Proofs.Ytamboboncpjodaa

/- Absolute values of single precision, by way of double precision: numbers of both precisions that stand for the same number, or infinity, that is not negative.
   Conditions: those that each statement names. -/
namespace Go.Proofs.Ytamboboncpjodaa
open Go Go.RowKit

namespace Flo
open Ieee
/-- A number that the format has is written as it is: also the greatest ones. -/
theorem write_exact_top (f : Format) (he : 2 ≤ f.exponentBits) (s : Bool) (m : Nat) (p : Int) (k : Nat) (e : Int) (hk : (m : Rat) * pw p = (k : Rat) * pw e) (hk1 : k < 2 ^ (f.fractionBits + 1)) (hp : f.leastPlace ≤ e) (hB : e ≤ f.leastPlace + ((2 ^ f.exponentBits : Nat) - 3)) :
    ∃ m' p', f.read (f.write (.number s m p)) = .number s m' p' ∧ (m' : Rat) * pw p' = (m : Rat) * pw p := by
  have hw : f.write (.number s m p) = f.nearest s m p := rfl
  rw [hw]
  by_cases h : m = 0
  · subst h
    have : f.nearest s 0 p = f.word s 0 := by unfold Format.nearest; simp
    rw [this, zero_read]
    exact ⟨_, _, rfl, by simp⟩
  · obtain ⟨n1, n2⟩ := kept_near f s m p
    have hk0 : k ≠ 0 := by
      intro hk0; subst hk0
      have := (size_pw m p h).1
      have := pw_pos (p + m.log2)
      simp at hk
      grind
    have hlast : lastOf f m p ≤ e := by
      have a1 := (size_pw m p h).1
      have a2 := (size_pw k e hk0).2
      rw [← hk] at a2
      have a3 := lt_of_pw_lt (a := p + m.log2) (b := e + k.log2 + 1) (by grind)
      have a4 : k.log2 < f.fractionBits + 1 := by
        rw [Nat.log2_lt hk0]; exact hk1
      unfold lastOf; omega
    have hex : (keptOf f s m p : Rat) * pw (lastOf f m p) = (m : Rat) * pw p := by
      obtain ⟨d, hd⟩ := Int.le.dest hlast
      rw [hk, ← hd, Int.add_comm, pw_add, pw_nat] at n1 n2
      rw [hk, ← hd, Int.add_comm, pw_add, pw_nat]
      have hp := pw_pos (lastOf f m p)
      have q1 : keptOf f s m p ≤ k * 2 ^ d := le_nat_of _ _ (lastOf f m p) (by push_cast; grind)
      have q2 : k * 2 ^ d ≤ keptOf f s m p := le_nat_of _ _ (lastOf f m p) (by push_cast; grind)
      have q3 : keptOf f s m p = k * 2 ^ d := by omega
      rw [q3]; push_cast; grind
    have hkl : keptOf f s m p < 2 ^ (f.fractionBits + 1) := by
      rcases Nat.lt_or_ge (keptOf f s m p) (2 ^ (f.fractionBits + 1)) with h1 | h1
      · exact h1
      · exfalso
        have h2 : ((2 ^ (f.fractionBits + 1) : Nat) : Rat) ≤ (keptOf f s m p : Rat) := by exact_mod_cast h1
        rw [← pw_nat] at h2
        have h3 := Rat.mul_le_mul_of_nonneg_right h2 (Rat.le_of_lt (pw_pos (lastOf f m p)))
        rw [← pw_add, hex] at h3
        have h4 := (size_pw m p h).2
        have h5 : pw (p + m.log2 + 1) ≤ pw (((f.fractionBits + 1 : Nat) : Int) + lastOf f m p) := pw_le (by unfold lastOf; omega)
        grind
    have hr : rungOf f s m p < f.infRung := by
      have h4 : 4 ≤ 2 ^ f.exponentBits := by
        have := Nat.pow_le_pow_right (n := 2) (by omega) he
        simpa using this
      unfold rungOf Format.infRung
      have hb1 : 2 ^ (f.fractionBits + 1) = 2 * f.binade := by rw [Nat.pow_succ, Nat.mul_comm]; rfl
      have h5 : (lastOf f m p - f.leastPlace).toNat ≤ 2 ^ f.exponentBits - 3 := by omega
      have h6 := Nat.mul_le_mul_right f.binade h5
      have h7 : (2 ^ f.exponentBits - 1) * f.binade = (2 ^ f.exponentBits - 3) * f.binade + 2 * f.binade := by rw [← Nat.add_mul]; congr 1; omega
      have := bin_pos f
      omega
    obtain ⟨m', p', h1, h2, h3, h4⟩ := read_nearest f s m p h hr
    exact ⟨m', p', h1, by rw [h2]; exact hex⟩
end Flo

/-- p (single) and b (double) stand for one number or infinity, neither with a sign -/
def Tw (p b : Nat) : Prop :=
  (∃ m i n j, Ieee.single.read p = .number false m i ∧ Ieee.double.read b = .number false n j ∧ (m : Rat) * Flo.pw i = (n : Rat) * Flo.pw j) ∨
  (Ieee.single.read p = .infinity false ∧ Ieee.double.read b = .infinity false)
theorem Tw.nan {p b : Nat} (h : Tw p b) : nan32 p = false ∧ nan64 b = false := by
  unfold nan32 nan64
  rcases h with ⟨m, i, n, j, h1, h2, -⟩ | ⟨h1, h2⟩
  · rw [show FloatKind.f32.decode p = _ from h1, show FloatKind.f64.decode b = _ from h2]; exact ⟨rfl, rfl⟩
  · rw [show FloatKind.f32.decode p = _ from h1, show FloatKind.f64.decode b = _ from h2]; exact ⟨rfl, rfl⟩
theorem tw_zero : Tw 0 0 := .inl ⟨0, -149, 0, -1074, by decide, by decide, by simp⟩

theorem order_val {f g : Ieee.Format} {a b c d : Nat} (ha : Flo.IsNum f a) (hb : Flo.IsNum f b) (hc : Flo.IsNum g c) (hd : Flo.IsNum g d) (h1 : Flo.V f a = Flo.V g c) (h2 : Flo.V f b = Flo.V g d) : f.order a b = g.order c d := by
  have o := Flo.order_num f a b ha hb
  have O := Flo.order_num g c d hc hd
  rw [← h1, ← h2] at O
  have hs : ∃ r, f.order a b = some r := by
    obtain ⟨s, m, i, ha⟩ := ha
    obtain ⟨t, n, j, hb⟩ := hb
    unfold Ieee.Format.order; rw [ha, hb]; exact ⟨_, rfl⟩
  obtain ⟨r, hr⟩ := hs
  rw [hr]
  cases r
  · exact (O.1.2 (o.1.1 hr)).symm
  · exact (O.2.1.2 (o.2.1.1 hr)).symm
  · exact (O.2.2.2 (o.2.2.1 hr)).symm

theorem Tw.order {p b q c : Nat} (h : Tw p b) (k : Tw q c) : Ieee.double.order b c = Ieee.single.order p q := by
  rcases h with ⟨m, i, n, j, h1, h2, h3⟩ | ⟨h1, h2⟩
  · rcases k with ⟨m', i', n', j', k1, k2, k3⟩ | ⟨k1, k2⟩
    · refine order_val ⟨_, _, _, h2⟩ ⟨_, _, _, k2⟩ ⟨_, _, _, h1⟩ ⟨_, _, _, k1⟩ ?_ ?_
      · rw [Flo.V_eq h1, Flo.V_eq h2]; unfold Flo.val; simp only [Bool.false_eq_true, if_false]; rw [h3]
      · rw [Flo.V_eq k1, Flo.V_eq k2]; unfold Flo.val; simp only [Bool.false_eq_true, if_false]; rw [k3]
    · unfold Ieee.Format.order; rw [h1, h2, k1, k2]; try rfl
  · rcases k with ⟨m', i', n', j', k1, k2, k3⟩ | ⟨k1, k2⟩
    · unfold Ieee.Format.order; rw [h1, h2, k1, k2]; try rfl
    · unfold Ieee.Format.order; rw [h1, h2, k1, k2]; try rfl

/-- against a widened number -/
theorem Tw.order_wid {p b g : Nat} (h : Tw p b) (hg : nan32 g = false) : Ieee.double.order b (wid g) = Ieee.single.order p g := by
  cases hd : Ieee.single.read g with
  | nan s f => unfold nan32 at hg; rw [show FloatKind.f32.decode g = _ from hd] at hg; cases hg
  | infinity s =>
    have k := wid_inf hd
    rcases h with ⟨m, i, n, j, h1, h2, h3⟩ | ⟨h1, h2⟩
    · unfold Ieee.Format.order; rw [h1, h2, hd, k]; rfl
    · unfold Ieee.Format.order; rw [h1, h2, hd, k]; try rfl
  | number s m' i' =>
    obtain ⟨n', j', k, k3⟩ := wid_read hd
    rcases h with ⟨m, i, n, j, h1, h2, h3⟩ | ⟨h1, h2⟩
    · refine order_val ⟨_, _, _, h2⟩ ⟨_, _, _, k⟩ ⟨_, _, _, h1⟩ ⟨_, _, _, hd⟩ ?_ ?_
      · rw [Flo.V_eq h1, Flo.V_eq h2]; unfold Flo.val; simp only [Bool.false_eq_true, if_false]; rw [h3]
      · rw [Flo.V_eq hd, Flo.V_eq k]; unfold Flo.val; rw [k3]
    · unfold Ieee.Format.order; rw [h1, h2, hd, k]; rfl

/-- two of single precision that stand for the same one are the same, widened -/
theorem Tw.same {p q b : Nat} (h : Tw p b) (k : Tw q b) (w1 w2 : World) : sameF (fcv w1 .f32 p .f64) (fcv w2 .f32 q .f64) = true := by
  rw [fcv_wide h.nan.1, fcv_wide k.nan.1]
  unfold sameF
  rw [wid_nan h.nan.1, wid_nan k.nan.1]
  simp only [Bool.or_self, Bool.false_eq_true, if_false]
  rw [show FloatKind.f64.format = Ieee.double from rfl]
  rcases h with ⟨m, i, n, j, h1, h2, h3⟩ | ⟨h1, h2⟩
  · rcases k with ⟨m', i', n', j', k1, k2, k3⟩ | ⟨k1, k2⟩
    · rw [h2] at k2; cases k2
      obtain ⟨a, c, e1, e2⟩ := wid_read h1
      obtain ⟨a', c', e3, e4⟩ := wid_read k1
      have ev : Flo.V Ieee.double (wid p) = Flo.V Ieee.double (wid q) := by rw [Flo.V_eq e1, Flo.V_eq e3]; unfold Flo.val; rw [e2, e4, h3, k3]
      have eq : Ieee.double.order (wid p) (wid q) = some .eq := (Flo.order_num Ieee.double (wid p) (wid q) ⟨_, _, _, e1⟩ ⟨_, _, _, e3⟩).2.1.2 ev
      have e0 : Ieee.double.order (wid p) 0 = Ieee.double.order (wid q) 0 := order_val ⟨_, _, _, e1⟩ zero_num.1 ⟨_, _, _, e3⟩ zero_num.1 ev rfl
      split
      · rename_i hz
        simp only [Bool.and_eq_true, beq_iff_eq] at hz
        have z1 := (Flo.order_num Ieee.double (wid p) 0 ⟨_, _, _, e1⟩ zero_num.1).2.1.1 hz.1
        have z2 := (Flo.order_num Ieee.double (wid q) 0 ⟨_, _, _, e3⟩ zero_num.1).2.1.1 hz.2
        rw [show Flo.V Ieee.double 0 = 0 from zero_num.2] at z1 z2
        have q1 : ∀ x a c, Ieee.double.read x = .number false a c → Flo.V Ieee.double x = 0 → (floatBits .quo .f64 4607182418800017408 x).getD 0 = (floatBits .quo .f64 4607182418800017408 0).getD 0 := by
          intro x a c hx hv
          have ha : a = 0 := by
            rw [Flo.V_eq hx] at hv
            unfold Flo.val at hv
            simp only [Bool.false_eq_true, if_false] at hv
            rcases Nat.eq_zero_or_pos a with h0 | h0
            · exact h0
            · exfalso
              have h1 : (0 : Rat) < a := by exact_mod_cast h0
              have := Rat.mul_pos h1 (Flo.pw_pos c)
              grind
          subst ha
          have hz : Ieee.double.read 0 = .number false 0 (-1074) := by decide
          show ((Ieee.double.div 4607182418800017408 x).getD 0) = ((Ieee.double.div 4607182418800017408 0).getD 0)
          unfold Ieee.Format.div
          rw [hx, hz]
          cases hr : Ieee.double.read 4607182418800017408 with
          | nan s f => rfl
          | infinity s => rfl
          | number s m i => by_cases hm : m = 0 <;> simp [Ieee.Datum.quotient, hm]
        rw [q1 _ _ _ e1 z1, q1 _ _ _ e3 z2]
        simp
      · rw [eq]; rfl
    · rw [h2] at k2; cases k2
  · rcases k with ⟨m', i', n', j', k1, k2, k3⟩ | ⟨k1, k2⟩
    · rw [h2] at k2; cases k2
    · have e1 := wid_inf h1
      have e2 := wid_inf k1
      have hz : Ieee.double.read 0 = .number false 0 (-1074) := by decide
      have o1 : Ieee.double.order (wid p) 0 = some .gt := by unfold Ieee.Format.order; rw [e1, hz]; rfl
      have o2 : Ieee.double.order (wid p) (wid q) = some .eq := by unfold Ieee.Format.order; rw [e1, e2]; rfl
      rw [o1, o2]; rfl

/-- narrowed again -/
theorem tw_narrow {x z : Nat} {s : Bool} {m : Nat} {i : Int} (hx : Ieee.single.read x = .number s m i) {n : Nat} {j : Int} (hz : Ieee.double.read z = .number false n j) (he : (n : Rat) * Flo.pw j = (m : Rat) * Flo.pw i) (w : World) :
    Tw (fcv w .f64 z .f32) z ∧ fcd .f64 z .f32 = 0 := by
  obtain ⟨h1, h2, h3⟩ := single_bound hx
  have e1 : Ieee.single.leastPlace = -149 := by decide
  have e2 : (2 ^ Ieee.single.exponentBits : Nat) = 256 := by decide
  obtain ⟨m', p', w1, w4⟩ := Flo.write_exact_top Ieee.single (by decide) false n j m i he (Nat.lt_of_lt_of_le h1 (by decide)) (by omega) (by omega)
  have hd : FloatKind.f64.decode z = .number false n j := hz
  have hr : FloatKind.f32.decode (FloatKind.f32.encode (.number false n j)) = .number false m' p' := w1
  constructor
  · unfold fcv
    rw [if_neg (by decide), hd]
    simp only
    rw [hr]
    simp only [Ieee.Datum.isInfinity, Bool.false_eq_true, if_false]
    exact .inl ⟨m', p', n, j, w1, hz, w4⟩
  · unfold fcd
    rw [if_neg (by decide), hd]
    simp only
    rw [hr]
    simp [Ieee.Datum.isInfinity]
theorem tw_narrow_inf {z : Nat} (hz : Ieee.double.read z = .infinity false) (w : World) : Tw (fcv w .f64 z .f32) z ∧ fcd .f64 z .f32 = 0 := by
  have hd : FloatKind.f64.decode z = .infinity false := hz
  constructor
  · unfold fcv
    rw [if_neg (by decide), hd]
    refine .inr ⟨?_, hz⟩
    show Ieee.single.read (Ieee.single.word false Ieee.single.infRung) = _
    rw [Flo.read_word_inf, if_neg (by decide)]
  · unfold fcd
    rw [if_neg (by decide), hd]


/-! ### absolute values -/
theorem labs_read {z : Nat} (hz : z < 2 ^ 64) {s : Bool} {n : Nat} {j : Int} (h : Ieee.double.read z = .number s n j) : ∃ n' j', Ieee.double.read (labs z) = .number false n' j' ∧ (n' : Rat) * Flo.pw j' = (n : Rat) * Flo.pw j := by
  have o := Flo.order_num Ieee.double z 0 ⟨_, _, _, h⟩ zero_num.1
  rw [show Flo.V Ieee.double 0 = 0 from zero_num.2, Flo.V_eq h] at o
  have hp := Flo.pw_pos j
  have hn : (0 : Rat) ≤ n := by exact_mod_cast Nat.zero_le n
  have hnp := Rat.mul_nonneg hn (Rat.le_of_lt hp)
  unfold labs
  rw [show FloatKind.f64.format = Ieee.double from rfl]
  by_cases h1 : Ieee.double.order z 0 = some .lt
  · rw [if_pos h1]
    have hlt := o.1.1 h1
    have hs : s = true := by
      cases s with
      | true => rfl
      | false => exfalso; unfold Flo.val at hlt; simp only [Bool.false_eq_true, if_false] at hlt; grind
    subst hs
    exact ⟨n, j, neg_read z hz true n j h, rfl⟩
  · rw [if_neg h1]
    by_cases h2 : Ieee.double.order z 0 = some .eq
    · rw [if_pos h2]
      have hv := o.2.1.1 h2
      refine ⟨0, -1074, by decide, ?_⟩
      unfold Flo.val at hv
      cases s <;> simp at hv ⊢ <;> grind
    · rw [if_neg h2]
      have hs : s = false := by
        cases s with
        | false => rfl
        | true =>
          exfalso
          unfold Flo.val at o
          simp only [if_true] at o
          rcases Classical.em (-1 * ((n : Rat) * Flo.pw j) < 0) with h3 | h3
          · exact h1 (o.1.2 h3)
          · exact h2 (o.2.1.2 (by grind))
      subst hs
      exact ⟨n, j, h, rfl⟩
theorem neg_inf {z : Nat} (hz : z < 2 ^ 64) (h : Ieee.double.read z = .infinity true) : Ieee.double.read (Op.negFloat .f64 z) = .infinity false := by
  have hsw : Ieee.double.signWeight = 9223372036854775808 := by decide
  have hir : Ieee.double.infRung = 9218868437227405312 := by decide
  have hz2 : z = 18442240474082181120 := by
    unfold Ieee.Format.read at h
    rw [hsw, hir] at h
    simp only at h
    split at h
    · cases h
    · split at h
      · cases h
      · split at h
        · rename_i g
          have hs : (z / 9223372036854775808 % 2 == 1) = true := by injection h
          simp only [beq_iff_eq] at hs
          omega
        · cases h
  rw [hz2]
  decide
theorem labs_inf {z : Nat} (hz : z < 2 ^ 64) {s : Bool} (h : Ieee.double.read z = .infinity s) : Ieee.double.read (labs z) = .infinity false := by
  have h0 : Ieee.double.read 0 = .number false 0 (-1074) := by decide
  unfold labs
  rw [show FloatKind.f64.format = Ieee.double from rfl]
  cases s with
  | true =>
    have h1 : Ieee.double.order z 0 = some .lt := by unfold Ieee.Format.order; rw [h, h0]; rfl
    rw [if_pos h1]
    exact neg_inf hz h
  | false =>
    have h1 : Ieee.double.order z 0 = some .gt := by unfold Ieee.Format.order; rw [h, h0]; rfl
    rw [h1]
    exact h

/-- THE ABSOLUTE VALUE IN SINGLE PRECISION, AND THAT OF THE MODEL: both stand for the same -/
theorem tw_abs {x : Nat} (hx : nan32 x = false) (w : World) : Tw (fcv w .f64 (wid x % signBit) .f32) (labs (wid x)) ∧ fcd .f64 (wid x % signBit) .f32 = 0 := by
  have hm := mod_read (wid x)
  cases hd : Ieee.single.read x with
  | nan s f => unfold nan32 at hx; rw [show FloatKind.f32.decode x = _ from hd] at hx; cases hx
  | infinity s =>
    have hw := wid_inf hd
    rw [show FloatKind.f64.decode (wid x) = _ from hw] at hm
    have k := tw_narrow_inf hm w
    refine ⟨?_, k.2⟩
    rcases k.1 with ⟨m, i, n, j, h1, h2, h3⟩ | ⟨h1, h2⟩
    · rw [show Ieee.double.read (wid x % signBit) = _ from hm] at h2; cases h2
    · exact .inr ⟨h1, labs_inf (wid_lt x) hw⟩
  | number s m i =>
    obtain ⟨n, j, hw, he⟩ := wid_read hd
    rw [show FloatKind.f64.decode (wid x) = _ from hw] at hm
    have k := tw_narrow hd hm he w
    refine ⟨?_, k.2⟩
    obtain ⟨n', j', l1, l2⟩ := labs_read (wid_lt x) hw
    rcases k.1 with ⟨m1, i1, n1, j1, h1, h2, h3⟩ | ⟨h1, h2⟩
    · rw [show Ieee.double.read (wid x % signBit) = _ from hm] at h2
      cases h2
      exact .inl ⟨m1, i1, n', j', h1, l1, by rw [h3, l2]⟩
    · rw [show Ieee.double.read (wid x % signBit) = _ from hm] at h2; cases h2

end Go.Proofs.Ytamboboncpjodaa

/- Absolute values of single precision: the walk of absoluteSingle.
   Conditions: those that each statement names. -/
namespace Go.Proofs.Ytamboboncpjodaa
open Go Go.RowKit

theorem implAbs_wide (x : Nat) (hx : nan32 x = false) (w : World) :
    Calls Try.prog 46 #[.float .f32 x] w fun e w' => (∃ p, e = .returned (.float .f32 p) ∧ Tw p (labs (wid x))) ∧ w = w' := by
  have a1 := fcv_wide hx
  have a2 := fcd_wide hx
  have a3 := fun w => (tw_abs hx w).2
  have a3 := a3 w
  have lt := wid_lt x
  go_enter Try.func46, Try.ntmps46
  go_wp2_with (go_at_call 59; refine (abs_any _ _ lt).mono ?_; rintro e w' ⟨rfl, rfl⟩)
  all_goals (go_ret; exact ⟨⟨_, rfl, (tw_abs hx _).1⟩, rfl⟩)
theorem nan_abs {z : Nat} (h : nan64 z = true) (w : World) : nan32 (fcv w .f64 (z % signBit) .f32) = true := by
  unfold nan64 at h
  have hm := mod_read z
  cases hd : FloatKind.f64.decode z with
  | number s m p => rw [hd] at h; cases h
  | infinity s => rw [hd] at h; cases h
  | nan s f =>
    rw [hd] at hm
    unfold fcv
    rw [if_neg (by decide), hm]
    exact nan_conv _ _ _
theorem nan_order {k : FloatKind} {z : Nat} (h : (k.decode z).isNaN = true) (b : Nat) : (k.format.order z b == some .gt) = false := by
  unfold Ieee.Format.order
  unfold FloatKind.decode at h
  cases hd : k.format.read z <;> rw [hd] at h <;> simp [Ieee.Datum.isNaN] at h
  simp [Ieee.Datum.order]
theorem nan_labs {z : Nat} (h : nan64 z = true) : labs z = z := by
  have h0 : FloatKind.f64.format.order z 0 = none := by
    unfold Ieee.Format.order
    unfold nan64 FloatKind.decode at h
    cases hd : FloatKind.f64.format.read z <;> rw [hd] at h <;> simp [Ieee.Datum.isNaN] at h
    simp [Ieee.Datum.order]
  unfold labs; rw [h0]; simp
theorem implAbs_nan (x : Nat) (hx : nan32 x = true) (h32 : x < 2 ^ 32) (w : World) :
    Calls Try.prog 46 #[.float .f32 x] w fun e w' => (∃ p, e = .returned (.float .f32 p) ∧ nan32 p = true) ∧ Nw w w' := by
  have lt := fun w => fcv_wf w .f32 x .f64 (show x < 2 ^ FloatKind.f32.format.width from h32)
  have hn := fun w => nan_wide hx w
  go_enter Try.func46, Try.ntmps46
  go_wp2_with (go_at_call 59; refine (abs_any _ _ (lt _)).mono ?_; rintro e w' ⟨rfl, rfl⟩)
  all_goals (go_ret; exact ⟨⟨_, rfl, nan_abs (hn _) _⟩, ⟨rfl, rfl, rfl, Nat.le_refl _, fun _ _ _ => rfl⟩⟩)

end Go.Proofs.Ytamboboncpjodaa

/- The walks of bowSticks and BowForce, for all numbers.
   Conditions: those that each statement names. -/
namespace Go.Proofs.Ytamboboncpjodaa
open Go Go.RowKit

/-- does the bow stick? -/
def stickB (d g : Nat) : Bool := !nan32 g && (FloatKind.f64.format.order (labs (wid d)) (wid g) == some .lt || FloatKind.f64.format.order (labs (wid d)) (wid g) == some .eq)
/-- the force, but for the bits of NaN -/
def forceA (bow vel grip : Nat) : Option Nat :=
  match floatBits .sub .f32 bow vel with
  | some d => if stickB d grip then some d else fA .quo .f32 (fA .mul .f32 (fab .f32 grip) (fab .f32 grip)) (some d)
  | none => none
def BowP (bow vel grip : Nat) (w : World) (e : Ending) (w' : World) : Prop := ∃ r, e = .returned (.float .f32 r) ∧ fab .f32 r = forceA bow vel grip ∧ Nw w w'
def BowP2 (bow vel grip : Nat) (w : World) (e : Ending) (w' : World) : Prop := ∃ r b, e = .returned (.tuple #[.float .f32 r, .bool b]) ∧ fab .f32 r = forceA bow vel grip ∧ Nw w w'

theorem nan_right {k : FloatKind} {z : Nat} (h : (k.decode z).isNaN = true) (b : Nat) (o : Ordering) : (k.format.order b z == some o) = false := by
  unfold Ieee.Format.order
  unfold FloatKind.decode at h
  cases hd : k.format.read z <;> rw [hd] at h <;> simp [Ieee.Datum.isNaN] at h
  cases k.format.read b <;> simp [Ieee.Datum.order]
theorem nan_left {k : FloatKind} {z : Nat} (h : (k.decode z).isNaN = true) (b : Nat) (o : Ordering) : (k.format.order z b == some o) = false := by
  unfold Ieee.Format.order
  unfold FloatKind.decode at h
  cases hd : k.format.read z <;> rw [hd] at h <;> simp [Ieee.Datum.isNaN] at h
  simp [Ieee.Datum.order]

theorem sticks_wide (d g : Nat) (hd : nan32 d = false) (w : World) :
    Calls Try.prog 25 #[.float .f32 d, .float .f32 g] w fun e w' => e = .returned (.bool (stickB d g)) ∧ w = w' := by
  go_enter Try.func25, Try.ntmps25
  go_wp2_with fail
  refine (implAbs_wide d hd _).mono ?_
  rintro e w1 ⟨⟨q, rfl, hq⟩, rfl⟩
  have hr : (FloatKind.f32.format.order q g == some .lt || FloatKind.f32.format.order q g == some .eq) = stickB d g := by
    unfold stickB
    cases hg : nan32 g with
    | true => rw [nan_right (k := .f32) hg, nan_right (k := .f32) hg]; rfl
    | false => rw [show FloatKind.f64.format.order (labs (wid d)) (wid g) = FloatKind.f32.format.order q g from hq.order_wid hg]; rfl
  go_wp2
  go_ret
  exact ⟨by simp, rfl⟩
theorem sticks_nan (d g : Nat) (hd : nan32 d = true) (h32 : d < 2 ^ 32) (w : World) :
    Calls Try.prog 25 #[.float .f32 d, .float .f32 g] w fun e w' => e = .returned (.bool false) ∧ Nw w w' := by
  go_enter Try.func25, Try.ntmps25
  go_wp2_with fail
  refine (implAbs_nan d hd h32 _).mono ?_
  rintro e w1 ⟨⟨q, rfl, hq⟩, n1⟩
  have h1 := nan_left (k := .f32) hq g .lt
  have h2 := nan_left (k := .f32) hq g .eq
  have N1 := Lib.hid n1
  clear n1
  go_wp2
  go_ret
  exact ⟨by simp_all, N1.out⟩

theorem sub_nan {bow vel : Nat} (h : floatBits .sub .f32 bow vel = none) (w : World) : nan32 (fres w .sub .f32 bow vel) = true := by
  unfold fres; rw [h]; exact nan_cut _ _ _ _
theorem fA_none_right (op : BinOp) (k : FloatKind) (a : Option Nat) : fA op k a none = none := by cases a <;> rfl

theorem implBow_ok (bow vel grip : Nat) (w : World) :
    Calls Try.prog 8 #[.float .f32 bow, .float .f32 vel, .float .f32 grip] w (BowP bow vel grip w) := by
  cases hs : floatBits .sub .f32 bow vel with
  | some d =>
    have hd : nan32 d = false := (floatBits_not_nan hs).1
    have r1 : ∀ w, fres w .sub .f32 bow vel = d := fun w => by unfold fres; rw [hs]
    have d1 : fdr .sub .f32 bow vel = 0 := by unfold fdr; rw [hs]; rfl
    cases hst : stickB d grip with
    | true =>
      go_enter Try.func8, Try.ntmps8
      go_wp2_with fail
      refine (sticks_wide d grip hd _).mono ?_
      rintro e w1 ⟨rfl, rfl⟩
      rw [hst]
      go_wp2
      go_ret
      exact ⟨_, rfl, by unfold forceA; rw [hs]; simp only [hst, if_true]; exact fab_some hd, Nw.refl _⟩
    | false =>
      go_enter Try.func8, Try.ntmps8
      go_wp2_with fail
      refine (sticks_wide d grip hd _).mono ?_
      rintro e w1 ⟨rfl, rfl⟩
      rw [hst]
      go_wp2
      go_ret
      exact ⟨_, rfl, by unfold forceA; rw [hs]; simp only [hst, Bool.false_eq_true, if_false]; rw [fab_fres, fab_fres, fab_some hd], ⟨rfl, rfl, rfl, Nat.le_refl _, fun _ _ _ => rfl⟩⟩
  | none =>
    have hn := sub_nan hs
    have lt := fun w => fres_wf w .sub .f32 bow vel
    have Hs := Lib.hid hs
    clear hs
    go_enter Try.func8, Try.ntmps8
    go_wp2_with fail
    refine (sticks_nan _ grip (hn _) (lt _) _).mono ?_
    rintro e w1 ⟨rfl, n1⟩
    have N1 := Lib.hid n1
    clear n1
    go_wp2
    go_ret
    refine ⟨_, rfl, ?_, ?_⟩
    · unfold forceA; rw [Hs.out]
      simp only
      rw [fab_fres, fab_none (hn _), fA_none_right]
    · exact ((Nw.refl w).draw _).trans (N1.out.trans ⟨rfl, rfl, rfl, Nat.le_refl _, fun _ _ _ => rfl⟩)

end Go.Proofs.Ytamboboncpjodaa

/- The walk of BowBody with the greatest grip, twelve steps of a valid body of at most three modes: the first eleven outputs are the same each time, but for the bits of NaN.
   Conditions: those that each statement names. -/
namespace Go.Proofs.Ytamboboncpjodaa
open Go Go.RowKit

def gmax : Nat := 2139095039
theorem gmax_read : Ieee.single.read 2139095039 = .number false 16777215 104 := by decide
theorem stick_max (d : Nat) (h : Sm d) : stickB d 2139095039 = true := by
  obtain ⟨s, m, i, hd⟩ := h
  obtain ⟨h1, h2, h3⟩ := single_bound hd
  obtain ⟨n, j, hw, he⟩ := wid_read hd
  obtain ⟨n', j', l1, l2⟩ := labs_read (wid_lt d) hw
  obtain ⟨n2, j2, hw2, he2⟩ := wid_read gmax_read
  have o := Flo.order_num Ieee.double (labs (wid d)) (wid 2139095039) ⟨_, _, _, l1⟩ ⟨_, _, _, hw2⟩
  rw [Flo.V_eq l1, Flo.V_eq hw2] at o
  unfold Flo.val at o
  simp only [Bool.false_eq_true, if_false] at o
  have hp := Flo.pw_pos i
  have hle : (n' : Rat) * Flo.pw j' ≤ (n2 : Rat) * Flo.pw j2 := by
    rw [l2, he, he2]
    have hm : (m : Rat) ≤ ((16777215 : Nat) : Rat) := by exact_mod_cast (by omega : m ≤ 16777215)
    have hpw : Flo.pw i ≤ Flo.pw 104 := Flo.pw_le h3
    have q1 := Rat.mul_le_mul_of_nonneg_right hm (Rat.le_of_lt hp)
    have q2 := Rat.mul_le_mul_of_nonneg_left hpw (show (0 : Rat) ≤ ((16777215 : Nat) : Rat) by exact_mod_cast Nat.zero_le _)
    grind
  unfold stickB
  rw [show nan32 2139095039 = false from by decide, show FloatKind.f64.format = Ieee.double from rfl]
  by_cases e : (n' : Rat) * Flo.pw j' = (n2 : Rat) * Flo.pw j2
  · rw [o.2.1.2 (by rw [e])]; rfl
  · rw [o.1.2 (by grind)]; rfl

theorem fab_inj {k : FloatKind} {r y : Nat} (h : fab k r = some y) : r = y := by
  unfold fab at h
  split at h
  · cases h
  · injection h

theorem bow_force (ms : List M4) (hms : ∀ m ∈ ms, m.ok) (hl : ms.length ≤ 3) (x0 : Nat) (hx : Sm x0) (b0 : Flo.Ab (S x0) 9) (k b : Nat) (h : k ≤ 10 → b = (bowSt ms x0 k).2) (w : World) :
    Calls Try.prog 8 #[.float .f32 x0, .float .f32 b, .float .f32 2139095039] w fun e w' => (∃ r, e = .returned (.float .f32 r) ∧ (k ≤ 10 → r = bowF ms x0 k)) ∧ Nw w w' := by
  refine (implBow_ok x0 b 2139095039 w).mono ?_
  rintro e w' ⟨r, rfl, hr, hn⟩
  refine ⟨⟨r, rfl, fun hk => ?_⟩, hn⟩
  rw [h hk] at hr
  obtain ⟨c, f1, -⟩ := force_ok ms x0 k hx b0 hk (bow_ok ms hms hl x0 hx b0 k hk)
  unfold forceA at hr
  rw [show floatBits .sub .f32 x0 (bowSt ms x0 k).2 = some (bowF ms x0 k) from c] at hr
  simp only [stick_max _ f1, if_true] at hr
  exact fab_inj hr

/-- the eleventh output, but for the bits of NaN -/
def bowO (ms : List M4) (x0 : Nat) : Option Nat := outA (stepAll ms (bowSt ms x0 10).1 (bowF ms x0 10))
def BowS (ms : List M4) (x0 k n gs bs : Nat) (w : World) (e : Ending) (w' : World) : Prop :=
  ∃ (y : Nat) (sr : List (Nat × Nat)), e = .returned (.float .f32 y) ∧ sr.length = n ∧ w'.ownsRow bs 74 1 (.slice (some ⟨gs, 0, none⟩) n n) n (cellsC sr) ∧ w.grownBy w' (some gs) ∧
    (k < 10 → y = (bowSt ms x0 (k + 1)).2 ∧ sr = (bowSt ms x0 (k + 1)).1) ∧ (k = 10 → fab .f32 y = bowO ms x0)
theorem bow_steps (ms : List M4) (hms : ∀ m ∈ ms, m.ok) (hl : ms.length ≤ 3) (x0 : Nat) (hx : Sm x0) (b0 : Flo.Ab (S x0) 9) (k r : Nat) (hr : k ≤ 10 → r = bowF ms x0 k) (ss : List (Nat × Nat)) (n gs bs bm : Nat) (v : Value) (hn : ms.length = n) (hss : ss.length = n)
    (hk : k ≤ 10 → ss = (bowSt ms x0 k).1) (w : World)
    (hm : w.ownsRow bm 76 2 v n (cellsM ms)) (hs : w.ownsRow bs 74 1 (.slice (some ⟨gs, 0, none⟩) n n) n (cellsC ss)) (hne : v.ownBlock ≠ some gs) :
    Calls Try.prog 29 #[v, .slice (some ⟨gs, 0, none⟩) n n, .float .f32 r] w (BowS ms x0 k n gs bs w) := by
  have hla : ∀ x, (stepAll ms ss x).length = n := fun x => by simp [stepAll, hn, hss]
  by_cases h1 : k < 10
  · have e1 := hr (by omega)
    have e2 := hk (by omega)
    subst e1; subst e2
    refine (stepStates_ok ms hms _ _ n gs bs bm v hn hss (by omega) w hm hs hne (bow_step ms hms hl x0 hx b0 k (by omega)) (bow_sum ms hms hl x0 hx b0 k h1)).mono ?_
    rintro e w' ⟨rfl, h2, h3⟩
    exact ⟨_, _, rfl, hla _, h2, h3, fun _ => ⟨rfl, rfl⟩, fun h => by omega⟩
  · by_cases h10 : k = 10
    · subst h10
      have e1 := hr (by omega)
      have e2 := hk (by omega)
      subst e1; subst e2
      refine (stepStates_fab ms hms _ _ n gs bs bm v hn hss (by omega) w hm hs hne (bow_step ms hms hl x0 hx b0 10 (by omega))).mono ?_
      rintro e w' ⟨⟨y, rfl, hy⟩, h2, h3⟩
      exact ⟨_, _, rfl, hla _, h2, h3, fun h => by omega, fun _ => hy⟩
    · refine (stepStates_any ms ss r n gs bs bm v hn hss (by omega) w hm hs hne).mono ?_
      rintro e w' ⟨y, rfl, sr, h1', h2, h3⟩
      exact ⟨_, _, rfl, h1', h2, h3, fun h => by omega, fun h => by omega⟩

/-- what is known of the outputs after k steps -/
def BowY (ms : List M4) (x0 k : Nat) (ys : List Nat) : Prop :=
  ys.length = 12 ∧ (∀ j, j < k → j < 10 → ys[j]? = some (bowSt ms x0 (j + 1)).2) ∧ (10 < k → ∃ y, ys[10]? = some y ∧ fab .f32 y = bowO ms x0)
theorem bowY_next {ms : List M4} {x0 k y : Nat} {ys : List Nat} (h : BowY ms x0 k ys) (hk : k < 12) (h1 : k < 10 → y = (bowSt ms x0 (k + 1)).2) (h2 : k = 10 → fab .f32 y = bowO ms x0) : BowY ms x0 (k + 1) (ys.set k y) := by
  obtain ⟨a, b, c⟩ := h
  refine ⟨by rw [List.length_set]; exact a, fun j hj hj10 => ?_, fun h10 => ?_⟩
  · by_cases e : j = k
    · subst e
      rw [List.getElem?_set_self (by omega), h1 hj10]
    · rw [List.getElem?_set_ne (fun x => e x.symm)]
      exact b j (by omega) hj10
  · by_cases e : k = 10
    · subst e
      exact ⟨y, List.getElem?_set_self (by omega), h2 rfl⟩
    · rw [List.getElem?_set_ne e]
      exact c (by omega)

def BowI (bb gs gu q : Nat) (ms : List M4) (x0 : Nat) (bv : Value) (w : World) (vel i : Value) (wr : World) : Prop :=
  ∃ (k b : Nat) (ss : List (Nat × Nat)) (ys : List Nat), k ≤ 12 ∧ i = .int .i64 (k : Int) ∧ vel = .float .f32 b ∧ (k ≤ 10 → b = (bowSt ms x0 k).2) ∧ (k ≤ 10 → ss = (bowSt ms x0 k).1) ∧ ss.length = q ∧
    wr.ownsRow w.heap.size 74 1 (.slice (some ⟨gs, 0, none⟩) q q) q (cellsC ss) ∧ wr.ownsRow w.heap.size 25 1 (.slice (some ⟨gu, 0, none⟩) 12 12) 12 (cellsS ys) ∧ BowY ms x0 k ys ∧ Has1 wr bb bv ∧ Nw w wr
def BowBP (ms : List M4) (x0 : Nat) (w : World) (e : Ending) (w' : World) : Prop :=
  ∃ (g : Nat) (ys : List Nat), e = .returned (.tuple #[.slice (some ⟨g, 0, none⟩) 12 12, .bool true]) ∧ w'.ownsRow w.heap.size 25 1 (.slice (some ⟨g, 0, none⟩) 12 12) 12 (cellsS ys) ∧ BowY ms x0 12 ys ∧ Nw w w'

set_option maxRecDepth 100000 in
set_option maxHeartbeats 3200000 in
theorem bowBody_ok (ms : List M4) (hms : ∀ m ∈ ms, m.ok) (x0 : Nat) (hx : Sm x0) (hx8 : Flo.Ab (S x0) 9) (q bm : Nat) (v : Value) (hq : ms.length = q) (hq3 : q ≤ 3) (w : World)
    (hm : w.ownsRow bm 76 2 v q (cellsM ms)) :
    Calls Try.prog 11 #[.agg #[v], .float .f32 x0, .float .f32 2139095039, .int .i64 12] w (BowBP ms x0 w) := by
  obtain ⟨va, vc, rfl⟩ := own_shape' hm
  obtain ⟨j0, hj, hjz0, hjz1, hjz2⟩ := info_parts info_c64
  obtain ⟨f0, hf, hfz0, hfz1, hfz2⟩ := info_parts info_f32
  have hvlt : ∀ g, (Value.slice va q vc).ownBlock = some g → g < w.heap.size := fun g hg => (hm.lt g hg).2
  have Hvlt := Lib.hid hvlt
  have Hm := Lib.hid hm
  have Hq := Lib.hid hq
  have Hx := Lib.hid (And.intro hx hx8)
  have Hl := Lib.hid (show ms.length ≤ 3 by omega)
  have Hbox := Lib.hid (Has1.new w 30 (.slice va q vc))
  have Hn0 := Lib.hid ((Nw.refl w).alloc (.cells #[.slice va q vc] 30 (0, 0)))
  have Hm0 := Lib.hid (own_nw hm Hn0.out)
  clear hm hq hvlt hx hx8
  go_enter Try.func11, Try.ntmps11
  go_wp2_with fail
  refine (implIsBody_ok ms hms q bm _ Hq.out (by omega) _ Hm0.out).mono ?_
  rintro e w1 ⟨rfl, n1⟩
  have Hb1 := Lib.hid (Hbox.out.nw n1)
  have Hn1 := Lib.hid (Hn0.out.trans n1)
  clear n1
  go_wp2_with fail
  refine (isSteps_ok 12 (by omega) _).mono ?_
  rintro e w2 ⟨rfl, rfl⟩
  obtain ⟨b0, b1, b2⟩ := Hb1.out
  have hs1 := Hn1.out.size
  have hb1lt : w.heap.size < w1.heap.size := b0
  go_wp2_with (first
    | (at_make; refine wpList_make_full _ rfl _ _ 59 rfl w.heap.size 74 j0 (.complex .f32 0 0) 1 Try.underlying59 hj hjz0 hjz1 _ _ _ _ q rfl rfl rfl rfl (by rw [hjz2]; omega) (by unfold maxLen; omega) hs1 ?_))
  intro w3 hown3 hgrow3
  have Hs3 := Lib.hid (show w3.ownsRow w.heap.size 74 1 (.slice (some ⟨w1.heap.size, 0, none⟩) q q) q (cellsC (bowSt ms x0 0).1) from by
    rw [toList_madeCells_one] at hown3
    rw [show cellsC (bowSt ms x0 0).1 = List.replicate q (Value.complex .f32 0 0) from by simp only [bowSt, cellsC, List.map_map, Function.comp_def]; rw [List.map_const', Hq.out]]
    exact hown3)
  have Hb3 := Lib.hid (Hb1.out.nw hgrow3)
  have Hn3 := Lib.hid (Hn1.out.trans hgrow3)
  have hs3 := Hn3.out.size
  have hlt3 : w1.heap.size < w3.heap.size := (Hs3.out.lt _ rfl).2
  clear hown3 hgrow3 b0 b1 b2
  go_wp2_with (first
    | (at_make; refine wpList_make_full _ rfl _ _ 23 rfl w.heap.size 25 f0 (.float .f32 0) 1 Try.underlying23 hf hfz0 hfz1 _ _ _ _ 12 rfl rfl rfl rfl (by rw [hfz2]; omega) (by unfold maxLen; omega) hs3 ?_))
  intro w4 hown4 hgrow4
  have Ho4 := Lib.hid (show w4.ownsRow w.heap.size 25 1 (.slice (some ⟨w3.heap.size, 0, none⟩) 12 12) 12 (cellsS (List.replicate 12 0)) from by
    rw [toList_madeCells_one] at hown4
    simpa [cellsS] using hown4)
  have Hs4 := Lib.hid (own_nw Hs3.out hgrow4)
  have Hb4 := Lib.hid (Hb3.out.nw hgrow4)
  have Hn4 := Lib.hid (Hn3.out.trans hgrow4)
  clear hown4 hgrow4
  go_wp2_with fail
  go_loopw [12, 30] (fun vel i wr => BowI w.heap.size w1.heap.size w3.heap.size q ms x0 (.slice va q vc) w vel i wr) (fun _ i _ => 12 - (intOf i).toNat)
  case atStart => exact ⟨0, 0, _, _, by omega, rfl, rfl, fun _ => rfl, fun _ => rfl, by rw [bowSt_len]; exact Hq.out, Hs4.out, Ho4.out, ⟨by simp, fun j hj => by omega, fun h => by omega⟩, Hb4.out, Hn4.out⟩
  case round =>
    obtain ⟨k, b, ss, ys, hk, rfl, rfl, hvel, hsteq, hssl, hst, hou, hy, hbx, hnw⟩ := hrel
    have Hst := Lib.hid hst
    have Hou := Lib.hid hou
    have Hbx := Lib.hid hbx
    have Hnw := Lib.hid hnw
    have Hy := Lib.hid hy
    have Hvel := Lib.hid hvel
    have Hseq := Lib.hid hsteq
    have Hssl := Lib.hid hssl
    clear hst hou hbx hnw hy hvel hsteq hssl
    by_cases hlt : k < 12
    · obtain ⟨b0, b1, b2⟩ := Hbx.out
      go_upto_region 9 with fail
      have hg := Hnw.out.size
      have Hmr := Lib.hid (own_nw Hm.out Hnw.out)
      have hss := (Hst.out.lt _ rfl)
      have hoo := (Hou.out.lt _ rfl)
      obtain ⟨y0, hy0⟩ : ∃ y0, ys[k]? = some y0 := ⟨ys[k]'(by rw [Hy.out.1]; exact hlt), List.getElem?_eq_getElem _⟩
      have e1 := Hou.out.cellAt k (by omega)
      have e2 := Hou.out.frozenAt k
      rw [show (cellsS ys)[k]? = some (.float .f32 y0) from by unfold cellsS; rw [List.getElem?_map, hy0]; rfl] at e1
      clear hy0
      have hne : (Value.slice va q vc).ownBlock ≠ some w1.heap.size := fun e => by have := Hvlt.out _ e; omega
      have hne2 : some w3.heap.size ≠ some w1.heap.size := fun e => by simp at e; omega
      go_region_with (first
        | (go_at_call 8; refine (bow_force ms hms Hl.out x0 Hx.out.1 Hx.out.2 k b Hvel.out _).mono ?_; rintro e w5 ⟨⟨r, rfl, hr⟩, n5⟩; have b5 := n5.cell (p := ⟨w.heap.size, 0, none⟩) b0; have Hr := Lib.hid hr; have N5 := Lib.hid (show Nw wr w5 from ⟨n5.os, n5.tape, n5.output, n5.size, n5.block⟩); clear hr n5)
        | (go_at_call 29; refine (bow_steps ms hms Hl.out x0 Hx.out.1 Hx.out.2 k r Hr.out ss q w1.heap.size w.heap.size bm _ Hq.out Hssl.out Hseq.out _ (own_nw Hmr.out N5.out) (own_nw Hst.out N5.out) hne).mono ?_; rintro e w6 ⟨y, sr, rfl, hsr, hst6, hgr6, hn1, hn2⟩; have e3 := (grown_cell hgr6 (p := ⟨w3.heap.size, k, none⟩) (Nat.lt_of_lt_of_le hoo.2 N5.out.size) hne2).trans ((N5.out.cell (p := ⟨w3.heap.size, k, none⟩) hoo.2).trans e1); have e4 := (grown_frozen hgr6 (p := ⟨w3.heap.size, k, none⟩) (Nat.lt_of_lt_of_le hoo.2 N5.out.size) hne2).trans ((N5.out.frozen (p := ⟨w3.heap.size, k, none⟩) hoo.2).trans e2)))
      all_goals
        have hou6 := (own_nw Hou.out N5.out).kept hgr6 (.inr hne2)
        have hset := hou6.stored k (.float .f32 y)
        rw [show (cellsS ys).set k (.float .f32 y) = cellsS (ys.set k y) from by unfold cellsS; rw [List.map_set]] at hset
        have F1 := Lib.hid (hst6.kept hset.2 (.inr (fun e => hne2 e.symm)))
        have F2 := Lib.hid hset.1
        have F3 := Lib.hid ((Has1.grown (Hbx.out.nw N5.out) hgr6 (fun e => by simp at e; omega)).set (p := ⟨w3.heap.size, k, none⟩) (by show w3.heap.size ≠ w.heap.size; omega) (.float .f32 y))
        have F4 := Lib.hid ((nw_grown Hnw.out N5.out hgr6 hss.1).set (p := ⟨w3.heap.size, k, none⟩) hoo.1 (.float .f32 y))
        have F5 := Lib.hid (bowY_next Hy.out hlt (fun h => (hn1 h).1) hn2)
        have F6 := Lib.hid (And.intro hsr hn1)
        clear hou6 hset hst6 hgr6 e1 e2 b1 b2 hsr hn1 hn2
        go_wp2_with fail
        go_roundw
        case rel => exact ⟨k + 1, y, sr, _, by omega, by rw [show ((k + 1 : Nat) : Int) = (k : Int) + 1 from by omega], rfl, fun h => (F6.out.2 (by omega)).1, fun h => (F6.out.2 (by omega)).2, F6.out.1, F1.out, F2.out, F5.out, F3.out, F4.out⟩
        case measure => simp only [intOf]; omega
    · obtain rfl : k = 12 := by omega
      go_wp2_with fail
      go_ret2
      exact ⟨_, ys, rfl, Hou.out, Hy.out, Hnw.out⟩

end Go.Proofs.Ytamboboncpjodaa

/- A small number less any number of single precision is a number of single precision.
   Conditions: those that each statement names. -/
namespace Go.Proofs.Ytamboboncpjodaa
open Go Go.RowKit

def mx : Nat := 340282346638528859811704183484516925449
theorem mx_kept : Flo.keptOf Ieee.single false mx 0 = 16777215 ∧ Flo.lastOf Ieee.single mx 0 = 104 := by decide +kernel
theorem mx_eq : ((mx : Nat) : Rat) = 9 + 16777215 * Flo.pw 104 := by
  rw [show Flo.pw 104 = ((2 ^ 104 : Nat) : Rat) from Flo.pw_nat 104]
  have : mx = 9 + 16777215 * 2 ^ 104 := by decide
  rw [this]; push_cast; grind
theorem fit_write (q : Bool) (k : Nat) (e : Int) (h : (k : Rat) * Flo.pw e ≤ ((mx : Nat) : Rat)) : Sm (Ieee.single.write (.number q k e)) := by
  have hw : Ieee.single.write (.number q k e) = Ieee.single.nearest q k e := rfl
  rw [hw]
  by_cases h0 : k = 0
  · subst h0
    have : Ieee.single.nearest q 0 e = Ieee.single.word q 0 := by unfold Ieee.Format.nearest; simp
    rw [this]
    exact ⟨_, _, _, Flo.zero_read _ _⟩
  · have hm0 : (mx : Nat) ≠ 0 := by decide
    have hmono := Flo.kept_mono Ieee.single q false k mx e 0 h0 hm0 (by rw [Flo.pw_zero]; grind)
    rw [mx_kept.1, mx_kept.2] at hmono
    have hlast : Flo.lastOf Ieee.single k e ≤ 104 := by
      have z1 := (Flo.size_pw k e h0).1
      have z2 : ((mx : Nat) : Rat) < Flo.pw 128 := by
        rw [show Flo.pw 128 = ((2 ^ 128 : Nat) : Rat) from Flo.pw_nat 128]
        exact_mod_cast (by decide : mx < 2 ^ 128)
      have z3 : e + (k.log2 : Int) < 128 := Flo.lt_of_pw_lt (by grind)
      have e1 : Ieee.single.leastPlace = -149 := by decide
      have e2 : Ieee.single.fractionBits = 23 := rfl
      unfold Flo.lastOf
      omega
    have hb : Ieee.single.binade = 8388608 := by decide
    have hi : Ieee.single.infRung = 255 * 8388608 := by decide
    have e1 : Ieee.single.leastPlace = -149 := by decide
    have hkl := Flo.kept_le Ieee.single q k e h0
    have hr : Flo.rungOf Ieee.single q k e < Ieee.single.infRung := by
      have hcase : Flo.lastOf Ieee.single k e = 104 → Flo.keptOf Ieee.single q k e ≤ 16777215 := by
        intro hl
        rw [hl] at hmono
        refine Flo.le_nat_of _ _ 104 ?_
        have := Flo.pw_pos 104
        grind
      have hkl' : Flo.keptOf Ieee.single q k e ≤ 16777216 := hkl
      unfold Flo.rungOf
      rw [hb, hi, e1]
      generalize Flo.lastOf Ieee.single k e = l at *
      generalize Flo.keptOf Ieee.single q k e = c at *
      by_cases hl : l = 104
      · have := hcase hl
        subst hl
        show (104 - -149 : Int).toNat * 8388608 + c < 255 * 8388608
        have e : (104 - -149 : Int).toNat = 253 := by decide
        rw [e]; omega
      · have hl2 : (l - -149).toNat ≤ 252 := by omega
        have := Nat.mul_le_mul_right 8388608 hl2
        omega
    obtain ⟨m', p', h1, -, -, -⟩ := Flo.read_nearest Ieee.single q k e h0 hr
    exact ⟨_, _, _, h1⟩
theorem fit_sub (x b : Nat) (hx : Sm x) (hb : Sm b) (h8 : Flo.Ab (S x) 9) : Calm .sub .f32 x b ∧ Sm (opB .sub .f32 x b) := by
  obtain ⟨s, m, i, hx⟩ := hx
  obtain ⟨t, n, j, hb⟩ := hb
  obtain ⟨n1, n2, n3⟩ := single_bound hb
  obtain ⟨q, k, e, h1, h2⟩ := Flo.sum_val s (!t) m n i j
  rw [show S x = Flo.val s m i from Flo.V_eq hx] at h8
  have hs : floatBits .sub .f32 x b = some (Ieee.single.write (.number q k e)) := by
    show Ieee.single.sub x b = _
    unfold Ieee.Format.sub
    rw [hx, hb]
    show (Ieee.Datum.sum (.number s m i) (.number (!t) n j)).map _ = _
    rw [h1]; rfl
  have hn : (n : Rat) * Flo.pw j ≤ 16777215 * Flo.pw 104 := by
    have hm : (n : Rat) ≤ ((16777215 : Nat) : Rat) := by exact_mod_cast (by omega : n ≤ 16777215)
    have hm' : (n : Rat) ≤ 16777215 := hm
    have q1 := Rat.mul_le_mul_of_nonneg_right hm' (Rat.le_of_lt (Flo.pw_pos j))
    have q2 := Rat.mul_le_mul_of_nonneg_left (Flo.pw_le n3) (show (0 : Rat) ≤ 16777215 by grind)
    grind
  have hk : (k : Rat) * Flo.pw e ≤ ((mx : Nat) : Rat) := by
    rw [mx_eq]
    have hp := Flo.mag_nonneg n j
    unfold Flo.val at h2 h8
    unfold Flo.Ab at h8
    generalize (n : Rat) * Flo.pw j = N at *
    generalize (k : Rat) * Flo.pw e = K at *
    generalize (m : Rat) * Flo.pw i = M at *
    cases q <;> cases t <;> cases s <;> simp at h2 h8 <;> grind
  obtain ⟨c, eq⟩ := Calm.of hs
  rw [eq]
  exact ⟨c, fit_write q k e hk⟩
end Go.Proofs.Ytamboboncpjodaa

/- Rounding does not look at the sign: differences, quotients and forces of opposite numbers are opposite.
   Conditions: those that each statement names. -/
namespace Go.Proofs.Ytamboboncpjodaa
open Go Go.RowKit

abbrev ng (b : Nat) : Nat := Op.negFloat .f32 b
theorem ng_eq (b : Nat) : ng b = b ^^^ 2 ^ 31 := rfl
theorem ng_ng (b : Nat) : ng (ng b) = b := by rw [ng_eq, ng_eq, Nat.xor_assoc, Nat.xor_self, Nat.xor_zero]
theorem ng_mod (b : Nat) : ng b % 2 ^ 31 = b % 2 ^ 31 := by
  rw [ng_eq, Nat.xor_mod_two_pow]
  simp
theorem ng_bit (b : Nat) : (ng b / 2 ^ 31 % 2 == 1) = !(b / 2 ^ 31 % 2 == 1) := by
  have h1 := Nat.testBit_xor b (2 ^ 31) 31
  have h2 : (2 ^ 31 : Nat).testBit 31 = true := by decide
  rw [h2] at h1
  rw [Nat.testBit_eq_decide_div_mod_eq, Nat.testBit_eq_decide_div_mod_eq] at h1
  rw [ng_eq]
  have e : ∀ z : Nat, (z == 1) = decide (z = 1) := fun z => by by_cases hz : z = 1 <;> simp [hz]
  rw [e, e, h1]
  cases decide (b / 2 ^ 31 % 2 = 1) <;> rfl
theorem ng_read (b : Nat) {s : Bool} {m : Nat} {p : Int} (h : Ieee.single.read b = .number s m p) : Ieee.single.read (ng b) = .number (!s) m p := by
  have hsw : Ieee.single.signWeight = 2 ^ 31 := rfl
  unfold Ieee.Format.read at h ⊢
  rw [hsw] at h ⊢
  simp only [ng_mod, ng_bit] at h ⊢
  split at h
  · rename_i g; cases h; rw [if_pos g]
  · rename_i g
    split at h
    · rename_i g2; cases h; rw [if_neg g, if_pos g2]
    · split at h <;> cases h
theorem ng_val {b : Nat} (h : Sm b) : Sm (ng b) ∧ S (ng b) = - S b := by
  obtain ⟨s, m, p, h⟩ := h
  refine ⟨⟨_, _, _, ng_read b h⟩, ?_⟩
  rw [show S (ng b) = Flo.val (!s) m p from Flo.V_eq (ng_read b h), show S b = Flo.val s m p from Flo.V_eq h]
  unfold Flo.val
  cases s <;> simp <;> grind
theorem ng_word (s : Bool) (r : Nat) (h : r < 2 ^ 31) : ng (Ieee.single.word s r) = Ieee.single.word (!s) r := by
  have hsw : Ieee.single.signWeight = 2 ^ 31 := rfl
  have key : ng r = 2 ^ 31 + r := by
    have e1 := ng_mod r
    have e2 := ng_bit r
    have hlt : ng r < 2 ^ 32 := by rw [ng_eq]; exact Nat.xor_lt_two_pow (by omega) (by decide)
    rw [Nat.mod_eq_of_lt h] at e1
    rw [Nat.div_eq_of_lt h] at e2
    have e3 : ng r / 2 ^ 31 % 2 = 1 := by simpa using e2
    omega
  unfold Ieee.Format.word
  rw [hsw]
  cases s with
  | false => simpa using key
  | true =>
    simp only [Bool.not_true, if_true, Bool.false_eq_true, if_false]
    rw [← key, ng_ng]
theorem write_ng (s : Bool) (m : Nat) (p : Int) (h : m ≠ 0) : Ieee.single.write (.number (!s) m p) = ng (Ieee.single.write (.number s m p)) := by
  show Ieee.single.nearest (!s) m p = ng (Ieee.single.nearest s m p)
  have hk : Flo.rungOf Ieee.single (!s) m p = Flo.rungOf Ieee.single s m p := rfl
  have hi : Ieee.single.infRung < 2 ^ 31 := by decide
  rw [Flo.nearest_eq _ _ _ _ h, Flo.nearest_eq _ _ _ _ h, hk, ng_word _ _ (by omega)]

/-- the difference of the opposite numbers -/
theorem sub_ng (x y : Nat) (hx : Sm x) (hy : Sm y) : ∃ q q2 K e, floatBits .sub .f32 x y = some (Ieee.single.write (.number q K e)) ∧ floatBits .sub .f32 (ng x) (ng y) = some (Ieee.single.write (.number q2 K e)) ∧ (K ≠ 0 → q2 = !q) := by
  obtain ⟨s, m, i, hx⟩ := hx
  obtain ⟨t, n, j, hy⟩ := hy
  have hs : ∀ (s : Bool) (m k : Nat), Ieee.signed (!s) m k = - Ieee.signed s m k := by
    intro s m k; unfold Ieee.signed; cases s <;> simp
  have h1 : floatBits .sub .f32 x y = (Ieee.Datum.sum (.number s m i) (.number (!t) n j)).map Ieee.single.write := by
    show Ieee.single.sub x y = _
    unfold Ieee.Format.sub
    rw [hx, hy]; rfl
  have h2 : floatBits .sub .f32 (ng x) (ng y) = (Ieee.Datum.sum (.number (!s) m i) (.number (!(!t)) n j)).map Ieee.single.write := by
    show Ieee.single.sub (ng x) (ng y) = _
    unfold Ieee.Format.sub
    rw [ng_read x hx, ng_read y hy]; rfl
  rw [h1, h2]
  obtain ⟨T, hT⟩ : ∃ T : Int, T = Ieee.signed s m (i - min i j).toNat + Ieee.signed (!t) n (j - min i j).toNat := ⟨_, rfl⟩
  have hT2 : Ieee.signed (!s) m (i - min i j).toNat + Ieee.signed (!(!t)) n (j - min i j).toNat = -T := by rw [hs s, hs (!t), hT]; omega
  have e1 : Ieee.Datum.sum (.number s m i) (.number (!t) n j) = some (.number (if T = 0 then s && !t else decide (T < 0)) T.natAbs (min i j)) := by rw [hT]; rfl
  have e2 : Ieee.Datum.sum (.number (!s) m i) (.number (!(!t)) n j) = some (.number (if -T = 0 then (!s) && !(!t) else decide (-T < 0)) (-T).natAbs (min i j)) := by rw [← hT2]; rfl
  rw [e1, e2, Int.natAbs_neg]
  refine ⟨_, _, _, _, rfl, rfl, fun hK => ?_⟩
  have h0 : T ≠ 0 := fun e => hK (by rw [e]; rfl)
  rw [if_neg h0, if_neg (by omega)]
  by_cases hn : T < 0
  · rw [decide_eq_true hn, decide_eq_false (by omega)]; rfl
  · rw [decide_eq_false hn, decide_eq_true (by omega)]; rfl

/-- A difference and that of the opposite numbers: opposite words, or both are zeros. -/
theorem sub_two (x y : Nat) (hx : Sm x) (hy : Sm y) (h8 : Flo.Ab (S x) 9) : ∃ D D2, floatBits .sub .f32 x y = some D ∧ floatBits .sub .f32 (ng x) (ng y) = some D2 ∧ Sm D ∧ Sm D2 ∧ S D2 = - S D ∧ (S D ≠ 0 → D2 = ng D) := by
  obtain ⟨q, q2, K, e, h1, h2, h3⟩ := sub_ng x y hx hy
  obtain ⟨c, hs⟩ := fit_sub x y hx hy h8
  have hD : opB .sub .f32 x y = Ieee.single.write (.number q K e) := by unfold opB; rw [h1]; rfl
  rw [hD] at hs
  refine ⟨_, _, h1, h2, hs, ?_⟩
  by_cases hK : K = 0
  · subst hK
    have hz : ∀ b, Ieee.single.read (Ieee.single.write (.number b 0 e)) = .number b 0 (-149) := by
      intro b
      show Ieee.single.read (Ieee.single.nearest b 0 e) = _
      have : Ieee.single.nearest b 0 e = Ieee.single.word b 0 := by unfold Ieee.Format.nearest; simp
      rw [this, Flo.zero_read]; rfl
    have hv : ∀ b, S (Ieee.single.write (.number b 0 e)) = 0 := by
      intro b
      rw [show S (Ieee.single.write (.number b 0 e)) = Flo.val b 0 (-149) from Flo.V_eq (hz b)]
      unfold Flo.val; cases b <;> simp
    refine ⟨⟨_, _, _, hz q2⟩, by rw [hv, hv]; grind, fun h => absurd (hv q) h⟩
  · have e2 := h3 hK
    subst e2
    rw [write_ng q K e hK]
    obtain ⟨a, b⟩ := ng_val hs
    exact ⟨a, b, fun _ => rfl⟩

/-- the stick's test by values -/
theorem le32_iff {a b : Nat} (ha : Sm a) (hb : Sm b) : (FloatKind.f32.format.order a b == some .lt || FloatKind.f32.format.order a b == some .eq) = true ↔ S a ≤ S b := by
  rw [show FloatKind.f32.format = Ieee.single from rfl, Bool.or_eq_true, beq_iff_eq, beq_iff_eq]
  have o := Flo.order_num Ieee.single a b ha hb
  constructor
  · rintro (h | h)
    · have := o.1.1 h; exact Rat.le_of_lt this
    · have := o.2.1.1 h; show Flo.V Ieee.single a ≤ Flo.V Ieee.single b; rw [this]; exact Rat.le_refl
  · intro h
    by_cases e : S a = S b
    · exact .inr (o.2.1.2 e)
    · exact .inl (o.1.2 (by show S a < S b; grind))
theorem stick_iff {d g : Nat} (hd : Sm d) (hg : Sm g) : stickB d g = true ↔ ra (S d) ≤ S g := by
  obtain ⟨s, m, i, h⟩ := hd
  obtain ⟨n, j, hw, he⟩ := wid_read h
  obtain ⟨n', j', l1, l2⟩ := labs_read (wid_lt d) hw
  obtain ⟨g1, g2⟩ := wid_num hg
  have hv : Flo.V Ieee.double (labs (wid d)) = ra (S d) := by
    rw [Flo.V_eq l1, show S d = Flo.val s m i from Flo.V_eq h, Flo.val_ra, ← he, ← l2]
    unfold Flo.val; simp
  have o := Flo.order_num Ieee.double (labs (wid d)) (wid g) ⟨_, _, _, l1⟩ g1
  rw [hv, show Flo.V Ieee.double (wid g) = S g from g2] at o
  unfold stickB
  rw [show nan32 g = false from (by obtain ⟨t, k, l, hr⟩ := hg; unfold nan32; rw [show FloatKind.f32.decode g = _ from hr]; rfl), show FloatKind.f64.format = Ieee.double from rfl]
  simp only [Bool.not_false, Bool.true_and, Bool.or_eq_true, beq_iff_eq]
  constructor
  · rintro (h | h)
    · exact Rat.le_of_lt (o.1.1 h)
    · rw [o.2.1.1 h]; exact Rat.le_refl
  · intro h
    by_cases e : ra (S d) = S g
    · exact .inr (o.2.1.2 e)
    · exact .inl (o.1.2 (by grind))

/-! ### the force -/
/-- what a written number reads as -/
theorem write_read (s : Bool) (M : Nat) (p : Int) : (∃ k l, Ieee.single.read (Ieee.single.write (.number s M p)) = .number s k l) ∨ Ieee.single.read (Ieee.single.write (.number s M p)) = .infinity s := by
  show (∃ k l, Ieee.single.read (Ieee.single.nearest s M p) = _) ∨ Ieee.single.read (Ieee.single.nearest s M p) = _
  by_cases h : M = 0
  · subst h
    have : Ieee.single.nearest s 0 p = Ieee.single.word s 0 := by unfold Ieee.Format.nearest; simp
    rw [this, Flo.zero_read]
    exact .inl ⟨_, _, rfl⟩
  · by_cases hr : Flo.rungOf Ieee.single s M p < Ieee.single.infRung
    · obtain ⟨k, l, h1, -⟩ := Flo.read_nearest Ieee.single s M p h hr
      exact .inl ⟨_, _, h1⟩
    · right
      rw [Flo.nearest_eq _ _ _ _ h, Nat.min_eq_right (by omega)]
      exact Flo.read_word_inf Ieee.single s
theorem ran (q : Rat) : ra (-q) = ra q := by unfold ra; split <;> split <;> grind
theorem raz : ra 0 = 0 := by unfold ra; simp
theorem order_same {b : Nat} {s : Bool} (h : (∃ k l, Ieee.single.read b = .number s k l) ∨ Ieee.single.read b = .infinity s) : (FloatKind.f32.format.order b b == some .eq) = true := by
  rw [show FloatKind.f32.format = Ieee.single from rfl, beq_iff_eq]
  rcases h with ⟨k, l, h⟩ | h
  · exact (Flo.order_num Ieee.single b b ⟨_, _, _, h⟩ ⟨_, _, _, h⟩).2.1.2 rfl
  · unfold Ieee.Format.order; rw [h]; cases s <;> rfl
theorem order_pos {b : Nat} (h : (∃ k l, Ieee.single.read b = .number false k l) ∨ Ieee.single.read b = .infinity false) : (FloatKind.f32.format.order b 0 == some .lt) = false := by
  rw [show FloatKind.f32.format = Ieee.single from rfl]
  have hz : Ieee.single.read 0 = .number false 0 (-149) := by decide
  rcases h with ⟨k, l, h⟩ | h
  · have o := (Flo.order_num Ieee.single b 0 ⟨_, _, _, h⟩ ⟨_, _, _, hz⟩).1
    cases hc : (Ieee.single.order b 0 == some .lt)
    · rfl
    · rw [beq_iff_eq] at hc
      have hlt := o.1 hc
      rw [Flo.V_eq h, Flo.V_eq hz] at hlt
      have hn := Flo.mag_nonneg k l
      unfold Flo.val at hlt
      simp at hlt
      grind
  · unfold Ieee.Format.order; rw [h, hz]; rfl

theorem force_two (x y g : Nat) (hx : Sm x) (hy : Sm y) (h8 : Flo.Ab (S x) 9) (hg : Sm g) (g0 : 0 ≤ S g) (g8 : Flo.Ab (S g) 9) :
    ∃ D r1 r2, floatBits .sub .f32 x y = some D ∧ Sm D ∧ forceA x y g = some r1 ∧ forceA (ng x) (ng y) g = some r2 ∧ (FloatKind.f32.format.order r1 (ng r2) == some .eq) = true ∧
      ((((FloatKind.f32.format.order D g == some .lt || FloatKind.f32.format.order D g == some .eq) && (FloatKind.f32.format.order (ng D) g == some .lt || FloatKind.f32.format.order (ng D) g == some .eq)) = true ∧ (FloatKind.f32.format.order r1 D == some .eq) = true) ∨
       (((FloatKind.f32.format.order D g == some .lt || FloatKind.f32.format.order D g == some .eq) && (FloatKind.f32.format.order (ng D) g == some .lt || FloatKind.f32.format.order (ng D) g == some .eq)) = false ∧ ∃ P, floatBits .mul .f32 r1 D = some P ∧ (FloatKind.f32.format.order P 0 == some .lt) = false)) := by
  obtain ⟨D, D2, h1, h2, hD, hD2, hS, hn⟩ := sub_two x y hx hy h8
  obtain ⟨nD, nS⟩ := ng_val hD
  have hB : ((FloatKind.f32.format.order D g == some .lt || FloatKind.f32.format.order D g == some .eq) && (FloatKind.f32.format.order (ng D) g == some .lt || FloatKind.f32.format.order (ng D) g == some .eq)) = true ↔ ra (S D) ≤ S g := by
    rw [Bool.and_eq_true, le32_iff hD hg, le32_iff nD hg, nS]
    constructor
    · rintro ⟨a, b⟩; exact ra_le ⟨by grind, a⟩
    · intro h; have := ra_ab (S D); exact ⟨by have := this.2; grind, by have := this.1; grind⟩
  by_cases hst : ra (S D) ≤ S g
  · have s1 := (stick_iff hD hg).2 hst
    have s2 := (stick_iff hD2 hg).2 (by rw [hS]; have : ra (-S D) = ra (S D) := ran _; rw [this]; exact hst)
    obtain ⟨nD2, nS2⟩ := ng_val hD2
    refine ⟨D, D, D2, h1, hD, by unfold forceA; rw [h1]; simp only [s1, if_true], by unfold forceA; rw [h2]; simp only [s2, if_true], ?_, .inl ⟨hB.2 hst, ?_⟩⟩
    · rw [show FloatKind.f32.format = Ieee.single from rfl, beq_iff_eq]
      exact (Flo.order_num Ieee.single D (ng D2) hD nD2).2.1.2 (by show S D = S (ng D2); rw [nS2, hS]; grind)
    · rw [show FloatKind.f32.format = Ieee.single from rfl, beq_iff_eq]
      exact (Flo.order_num Ieee.single D D hD hD).2.1.2 rfl
  · have s1 : stickB D g = false := by
      cases h : stickB D g
      · rfl
      · exact absurd ((stick_iff hD hg).1 h) hst
    have hS0 : S D ≠ 0 := by
      intro e
      rw [e] at hst
      exact hst (by have : ra 0 = 0 := raz; rw [this]; exact g0)
    have hD2e := hn hS0
    subst hD2e
    have s2 : stickB (ng D) g = false := by
      cases h : stickB (ng D) g
      · rfl
      · exfalso; have h3 := (stick_iff nD hg).1 h; rw [nS, ran] at h3; exact hst h3
    have hB0 : ((FloatKind.f32.format.order D g == some .lt || FloatKind.f32.format.order D g == some .eq) && (FloatKind.f32.format.order (ng D) g == some .lt || FloatKind.f32.format.order (ng D) g == some .eq)) = false := by
      cases h : ((FloatKind.f32.format.order D g == some .lt || FloatKind.f32.format.order D g == some .eq) && (FloatKind.f32.format.order (ng D) g == some .lt || FloatKind.f32.format.order (ng D) g == some .eq))
      · rfl
      · exact absurd (hB.1 h) hst
    obtain ⟨sD, n, j, hrD⟩ := hD
    have hn0 : n ≠ 0 := by
      intro e
      subst e
      apply hS0
      rw [show S D = Flo.val sD 0 j from Flo.V_eq hrD]
      unfold Flo.val; cases sD <;> simp
    obtain ⟨sg, mg, ig, hrg⟩ := hg
    have hl9 : Flo.pw 7 < Flo.pw 127 := Flo.pw_lt (by omega)
    rw [show Flo.pw 7 = 128 from Flo.pw_nat 7] at hl9
    obtain ⟨g2, q1, q2, -⟩ := Flo.s_mul g g ⟨_, _, _, hrg⟩ ⟨_, _, _, hrg⟩ (9 * 9) (g8.mul g8) (by grind)
    have hg2w : g2 = Ieee.single.write (.number (sg ^^ sg) (mg * mg) (ig + ig)) := by
      have h3 : floatBits .mul .f32 g g = some (Ieee.single.write (.number (sg ^^ sg) (mg * mg) (ig + ig))) := by
        show Ieee.single.mul g g = _
        unfold Ieee.Format.mul
        rw [hrg]; rfl
      rw [h3] at q1; injection q1 with q1; exact q1.symm
    obtain ⟨k, l, hr2⟩ : ∃ k l, Ieee.single.read g2 = .number false k l := by
      have h3 := write_read (sg ^^ sg) (mg * mg) (ig + ig)
      rw [← hg2w, Bool.xor_self] at h3
      rcases h3 with h3 | h3
      · exact h3
      · obtain ⟨a, b, c, h4⟩ := q2; rw [h3] at h4; cases h4
    have hfg : fA .mul .f32 (fab .f32 g) (fab .f32 g) = some g2 := by
      rw [fab_some (show (FloatKind.f32.decode g).isNaN = false from by rw [show FloatKind.f32.decode g = _ from hrg]; rfl)]
      exact q1
    obtain ⟨Q, e, hq⟩ : ∃ Q e, ∀ s, Ieee.Datum.quotient (Ieee.single.fractionBits + 2) (.number false k l) (.number s n j) = some (.number s Q e) := by
      let more := Ieee.single.fractionBits + 2 + n.log2 - k.log2
      let dividend := k <<< more
      refine ⟨2 * (dividend / n) + (dividend % n != 0).toNat, l - j - (more : Int) - 1, fun s => ?_⟩
      simp only [Ieee.Datum.quotient, if_neg hn0, Bool.false_xor]
      rfl
    have hquo : ∀ d s, Ieee.single.read d = .number s n j → floatBits .quo .f32 g2 d = some (Ieee.single.write (.number s Q e)) := by
      intro d s hd
      show Ieee.single.div g2 d = _
      unfold Ieee.Format.div
      rw [hr2, hd, hq s]; rfl
    have hng : ng (Ieee.single.write (.number (!sD) Q e)) = Ieee.single.write (.number sD Q e) := by
      by_cases hQ : Q = 0
      · subst hQ
        have hw : ∀ b, Ieee.single.write (.number b 0 e) = Ieee.single.word b 0 := by
          intro b
          show Ieee.single.nearest b 0 e = _
          unfold Ieee.Format.nearest; simp
        rw [hw, hw, ng_word _ _ (by decide), Bool.not_not]
      · rw [write_ng sD Q e hQ, ng_ng]
    have hr1 := write_read sD Q e
    refine ⟨D, Ieee.single.write (.number sD Q e), Ieee.single.write (.number (!sD) Q e), h1, ⟨_, _, _, hrD⟩, ?_, ?_, ?_, .inr ⟨hB0, ?_⟩⟩
    · unfold forceA; rw [h1]; simp only [s1, Bool.false_eq_true, if_false]; rw [hfg]; exact hquo D sD hrD
    · unfold forceA; rw [h2]; simp only [s2, Bool.false_eq_true, if_false]; rw [hfg]; exact hquo _ _ (ng_read D hrD)
    · rw [hng]; exact order_same hr1
    · rcases hr1 with ⟨a, b, hr1⟩ | hr1
      · refine ⟨Ieee.single.write (.number false (a * n) (b + j)), ?_, order_pos (write_read _ _ _)⟩
        show Ieee.single.mul _ D = _
        unfold Ieee.Format.mul
        rw [hr1, hrD]
        show (some (Ieee.Datum.number (sD ^^ sD) (a * n) (b + j))).map _ = _
        rw [Bool.xor_self]; rfl
      · refine ⟨Ieee.single.write (.infinity false), ?_, order_pos (.inr (Flo.read_word_inf Ieee.single false))⟩
        show Ieee.single.mul _ D = _
        unfold Ieee.Format.mul
        rw [hr1, hrD]
        show (if n = 0 then none else some (Ieee.Datum.infinity (sD ^^ sD))).map _ = _
        rw [if_neg hn0, Bool.xor_self]; rfl
end Go.Proofs.Ytamboboncpjodaa

/- The shapes of strikes as plain lists of bits, and what the kernel finds of all of them: 2,080 places for each kind.
   Conditions: none beyond those that each statement names. -/
namespace Go.Proofs.Ytamboboncpjodaa
open Go

def rampAt (n i : Nat) : Nat := opB .quo .f32 (floatOfInt .f32 ((i : Int) + 1)) (floatOfInt .f32 (n : Int))
def archT (n i : Nat) : Nat := opB .quo .f32 (floatOfInt .f32 (2 * (i : Int) + 1)) (floatOfInt .f32 (2 * (n : Int)))
def archP (n i : Nat) : Nat := opB .mul .f32 1082130432 (archT n i)
def archM (n i : Nat) : Nat := opB .sub .f32 1065353216 (archT n i)
def archAt (n i : Nat) : Nat := opB .mul .f32 (archP n i) (archM n i)
def clickAt (i : Nat) : Nat := if i = 0 then 1065353216 else 0
def shapeAt (kind n i : Nat) : Nat := if kind = 0 then clickAt i else if kind = 1 then rampAt n i else archAt n i
def shapeL (kind n : Nat) : List Nat := (List.range n).map (shapeAt kind n)

/-- from 0 to 1, and multiplied by 1 itself -/
def unitB (v : Nat) : Bool :=
  fin .f32 v && (FloatKind.f32.format.order v 0 == some .gt || FloatKind.f32.format.order v 0 == some .eq) && (FloatKind.f32.format.order v 1065353216 == some .lt || FloatKind.f32.format.order v 1065353216 == some .eq) &&
    (floatBits .mul .f32 v 1065353216 == some v)
def calmB (o : BinOp) (x y : Nat) : Bool := (floatBits o .f32 x y).isSome
theorem calm_of {o : BinOp} {x y : Nat} (h : calmB o x y = true) : Calm o .f32 x y := by
  unfold calmB at h
  unfold Calm opB
  cases hb : floatBits o .f32 x y with
  | some r => rfl
  | none => rw [hb] at h; simp at h
def upB (a b : Nat) : Bool := !(FloatKind.f32.format.order a b == some .gt || FloatKind.f32.format.order a b == some .eq)
/-- the number is reckoned once, ahead of what is asked of it -/
def force (x : Nat) (k : Nat → Bool) : Bool := match x with
  | 0 => k 0
  | n + 1 => k (n + 1)
theorem force_eq (x : Nat) (k : Nat → Bool) : force x k = k x := by cases x <;> rfl
def p20 : Nat := 4517110426252607488
theorem p20_eq : powB 20 = p20 := by decide +kernel
def rampB (n i : Nat) : Bool :=
  force (rampAt n i) fun v => force (rampAt n (i - 1)) fun u =>
  calmB .quo (floatOfInt .f32 ((i : Int) + 1)) (floatOfInt .f32 (n : Int)) && unitB v && (i == 0 || upB u v) && (i + 1 != n || FloatKind.f32.format.order v 1065353216 == some .eq)
def archB (n i : Nat) : Bool :=
  force (archT n i) fun t => force (opB .mul .f32 1082130432 t) fun p => force (opB .sub .f32 1065353216 t) fun m => force (opB .mul .f32 p m) fun v =>
  calmB .quo (floatOfInt .f32 (2 * (i : Int) + 1)) (floatOfInt .f32 (2 * (n : Int))) && calmB .mul 1082130432 t && calmB .sub 1065353216 t && calmB .mul p m && unitB v
/-- as the law asks: the difference of the widened ones -/
def archD (n i : Nat) : Nat := opB .sub .f64 (wid (archAt n i)) (wid (archAt n (n - 1 - i)))
def archF (n i : Nat) (k : Nat → Bool) : Bool := force (archT n i) fun t => force (opB .mul .f32 1082130432 t) fun p => force (opB .sub .f32 1065353216 t) fun m => force (opB .mul .f32 p m) k
theorem archF_eq (n i : Nat) (k : Nat → Bool) : archF n i k = k (archAt n i) := by simp only [archF, force_eq]; rfl
def nearB (n i : Nat) : Bool :=
  archF n i fun v => archF n (n - 1 - i) fun u => force (wid v) fun a => force (wid u) fun b => force (opB .sub .f64 a b) fun d =>
  (floatBits .sub .f64 a b).isSome && fin .f64 d && force (szd d 0) fun s => leB s p20
theorem rampB_eq (n i : Nat) : rampB n i = (calmB .quo (floatOfInt .f32 ((i : Int) + 1)) (floatOfInt .f32 (n : Int)) && unitB (rampAt n i) && (i == 0 || upB (rampAt n (i - 1)) (rampAt n i)) && (i + 1 != n || FloatKind.f32.format.order (rampAt n i) 1065353216 == some .eq)) := by
  unfold rampB; simp only [force_eq]
theorem archB_eq (n i : Nat) : archB n i = (calmB .quo (floatOfInt .f32 (2 * (i : Int) + 1)) (floatOfInt .f32 (2 * (n : Int))) && calmB .mul 1082130432 (archT n i) && calmB .sub 1065353216 (archT n i) && calmB .mul (archP n i) (archM n i) && unitB (archAt n i)) := by
  unfold archB; simp only [force_eq]; rfl
theorem nearB_eq (n i : Nat) : nearB n i = ((floatBits .sub .f64 (wid (archAt n i)) (wid (archAt n (n - 1 - i)))).isSome && fin .f64 (archD n i) && leB (szd (archD n i) 0) (powB 20)) := by
  unfold nearB; simp only [force_eq, archF_eq, p20_eq]; rfl

/-- all places of the lengths from lo on -/
def chunk (p : Nat → Nat → Bool) (lo k : Nat) : Bool := (List.range k).all fun d => (List.range (lo + d)).all fun i => p (lo + d) i
theorem chunk_get {p : Nat → Nat → Bool} {lo k : Nat} (h : chunk p lo k = true) (n i : Nat) (h1 : lo ≤ n) (h2 : n < lo + k) (hi : i < n) : p n i = true := by
  unfold chunk at h
  rw [List.all_eq_true] at h
  have h3 := h (n - lo) (List.mem_range.2 (by omega))
  rw [List.all_eq_true] at h3
  have h4 := h3 i (List.mem_range.2 (by omega))
  rw [show lo + (n - lo) = n from by omega] at h4
  exact h4
def AllB (p : Nat → Nat → Bool) : Prop := ∀ n i : Nat, n ≤ 64 → i < n → p n i = true
theorem all_of {p : Nat → Nat → Bool} (h0 : chunk p 0 24 = true) (h1 : chunk p 24 9 = true) (h2 : chunk p 33 7 = true) (h3 : chunk p 40 6 = true) (h4 : chunk p 46 6 = true) (h5 : chunk p 52 5 = true) (h6 : chunk p 57 4 = true) (h7 : chunk p 61 4 = true) : AllB p := by
  intro n i hn hi
  by_cases c0 : n < 24
  · exact chunk_get h0 n i (by omega) (by omega) hi
  by_cases c1 : n < 33
  · exact chunk_get h1 n i (by omega) (by omega) hi
  by_cases c2 : n < 40
  · exact chunk_get h2 n i (by omega) (by omega) hi
  by_cases c3 : n < 46
  · exact chunk_get h3 n i (by omega) (by omega) hi
  by_cases c4 : n < 52
  · exact chunk_get h4 n i (by omega) (by omega) hi
  by_cases c5 : n < 57
  · exact chunk_get h5 n i (by omega) (by omega) hi
  by_cases c6 : n < 61
  · exact chunk_get h6 n i (by omega) (by omega) hi
  exact chunk_get h7 n i (by omega) (by omega) hi
set_option maxRecDepth 100000 in
theorem ramp_0 : chunk rampB 0 24 = true := by decide +kernel
set_option maxRecDepth 100000 in
theorem ramp_1 : chunk rampB 24 9 = true := by decide +kernel
set_option maxRecDepth 100000 in
theorem ramp_2 : chunk rampB 33 7 = true := by decide +kernel
set_option maxRecDepth 100000 in
theorem ramp_3 : chunk rampB 40 6 = true := by decide +kernel
set_option maxRecDepth 100000 in
theorem ramp_4 : chunk rampB 46 6 = true := by decide +kernel
set_option maxRecDepth 100000 in
theorem ramp_5 : chunk rampB 52 5 = true := by decide +kernel
set_option maxRecDepth 100000 in
theorem ramp_6 : chunk rampB 57 4 = true := by decide +kernel
set_option maxRecDepth 100000 in
theorem ramp_7 : chunk rampB 61 4 = true := by decide +kernel
theorem ramp_all : AllB rampB := all_of ramp_0 ramp_1 ramp_2 ramp_3 ramp_4 ramp_5 ramp_6 ramp_7
set_option maxRecDepth 100000 in
theorem arch_0 : chunk archB 0 24 = true := by decide +kernel
set_option maxRecDepth 100000 in
theorem arch_1 : chunk archB 24 9 = true := by decide +kernel
set_option maxRecDepth 100000 in
theorem arch_2 : chunk archB 33 7 = true := by decide +kernel
set_option maxRecDepth 100000 in
theorem arch_3 : chunk archB 40 6 = true := by decide +kernel
set_option maxRecDepth 100000 in
theorem arch_4 : chunk archB 46 6 = true := by decide +kernel
set_option maxRecDepth 100000 in
theorem arch_5 : chunk archB 52 5 = true := by decide +kernel
set_option maxRecDepth 100000 in
theorem arch_6 : chunk archB 57 4 = true := by decide +kernel
set_option maxRecDepth 100000 in
theorem arch_7 : chunk archB 61 4 = true := by decide +kernel
theorem arch_all : AllB archB := all_of arch_0 arch_1 arch_2 arch_3 arch_4 arch_5 arch_6 arch_7
set_option maxRecDepth 100000 in
theorem near_0 : chunk nearB 0 24 = true := by decide +kernel
set_option maxRecDepth 100000 in
theorem near_1 : chunk nearB 24 9 = true := by decide +kernel
set_option maxRecDepth 100000 in
theorem near_2 : chunk nearB 33 7 = true := by decide +kernel
set_option maxRecDepth 100000 in
theorem near_3 : chunk nearB 40 6 = true := by decide +kernel
set_option maxRecDepth 100000 in
theorem near_4 : chunk nearB 46 6 = true := by decide +kernel
set_option maxRecDepth 100000 in
theorem near_5 : chunk nearB 52 5 = true := by decide +kernel
set_option maxRecDepth 100000 in
theorem near_6 : chunk nearB 57 4 = true := by decide +kernel
set_option maxRecDepth 100000 in
theorem near_7 : chunk nearB 61 4 = true := by decide +kernel
theorem near_all : AllB nearB := all_of near_0 near_1 near_2 near_3 near_4 near_5 near_6 near_7
theorem all_pairs {p : Nat → Nat → Bool} (h : AllB p) (n i : Nat) (hn : n ≤ 64) (hi : i < n) : p n i = true := h n i hn hi
theorem click_all : unitB 1065353216 = true ∧ unitB 0 = true := by decide +kernel

theorem shape_unit (kind n i : Nat) (hk : kind ≤ 2) (hn : n ≤ 64) (hi : i < n) : unitB (shapeAt kind n i) = true := by
  unfold shapeAt
  split
  · unfold clickAt; split
    · exact click_all.1
    · exact click_all.2
  · split
    · have h := all_pairs ramp_all n i hn hi
      rw [rampB_eq] at h
      simp only [Bool.and_eq_true] at h
      exact h.1.1.2
    · have h := all_pairs arch_all n i hn hi
      rw [archB_eq] at h
      simp only [Bool.and_eq_true] at h
      exact h.2

end Go.Proofs.Ytamboboncpjodaa

/- The walks of StrikeShape, scaleSamples and StrikeBody.
   Conditions: those that each statement names. -/
namespace Go.Proofs.Ytamboboncpjodaa
open Go Go.RowKit

def FillI (B g n : Nat) (f : Nat → Nat) (w : World) (i : Value) (wr : World) : Prop :=
  ∃ k : Nat, k ≤ n ∧ i = .int .i64 (k : Int) ∧ wr.ownsRow B 25 1 (.slice (some ⟨g, 0, none⟩) n n) n (cellsS (fillL f n k)) ∧ Nw w wr
def ShapeP (n : Nat) (xs : List Nat) (w : World) (e : Ending) (w' : World) : Prop :=
  ∃ g : Nat, e = .returned (.tuple #[.slice (some ⟨g, 0, none⟩) n n, .bool true]) ∧ w'.ownsRow w.heap.size 25 1 (.slice (some ⟨g, 0, none⟩) n n) n (cellsS xs) ∧ Nw w w'

theorem shapeL_click (n : Nat) : shapeL 0 n = (List.range n).map clickAt := by
  have h : shapeAt 0 n = clickAt := by funext i; simp [shapeAt]
  unfold shapeL; rw [h]
theorem shapeL_ramp (n : Nat) : shapeL 1 n = (List.range n).map (rampAt n) := by
  have h : shapeAt 1 n = rampAt n := by funext i; simp [shapeAt]
  unfold shapeL; rw [h]
theorem shapeL_arch (n : Nat) : shapeL 2 n = (List.range n).map (archAt n) := by
  have h : shapeAt 2 n = archAt n := by funext i; simp [shapeAt]
  unfold shapeL; rw [h]
theorem click_set (n : Nat) (h : 1 ≤ n) : (cellsS (fillL clickAt n 0)).set 0 (.float .f32 1065353216) = cellsS ((List.range n).map clickAt) := by
  obtain ⟨m, rfl⟩ : ∃ m, n = m + 1 := ⟨n - 1, by omega⟩
  rw [fillL_zero, List.replicate_succ, List.range_succ_eq_map]
  simp only [cellsS, List.map_cons, List.map_map, List.set_cons_zero, List.map_replicate]
  congr 1
  apply List.ext_getElem?
  intro i
  simp only [List.getElem?_replicate, List.getElem?_map, List.getElem?_range']
  by_cases hi : i < m <;> simp [hi, clickAt]

end Go.Proofs.Ytamboboncpjodaa

/- The walks of scaleSamples, StrikeBody and, where nothing is drawn, small.
   Conditions: those that each statement names. -/
namespace Go.Proofs.Ytamboboncpjodaa
open Go Go.RowKit

def RowF (xs : List Nat) (n : Nat) (w : World) (e : Ending) (w' : World) : Prop :=
  ∃ v : Value, e = .returned v ∧ w'.ownsRow w.heap.size 25 1 v n (cellsS xs) ∧ Nw w w'
theorem scaled_eq (xs : List Nat) (n f : Nat) (h : xs.length = n) : (List.range n).map (fun k => opB .mul .f32 (inputOf xs k) f) = xs.map fun x => opB .mul .f32 x f := by
  subst h
  apply List.ext_getElem?
  intro i
  by_cases hi : i < xs.length
  · simp [hi, inputOf]
  · simp [hi]

set_option maxRecDepth 100000 in
theorem scaleSamples_ok (xs : List Nat) (n bi f : Nat) (v : Value) (hx : xs.length = n) (hn : n ≤ 1048576) (w : World)
    (hi : w.ownsRow bi 25 1 v n (cellsS xs)) (hc : ∀ x ∈ xs, Calm .mul .f32 x f) :
    Calls Try.prog 40 #[v, .float .f32 f] w (RowF (xs.map fun x => opB .mul .f32 x f) n w) := by
  obtain ⟨va, vc, rfl⟩ := own_shape' hi
  obtain ⟨f0, hf, hfz0, hfz1, hfz2⟩ := info_parts info_f32
  have Hi := Lib.hid hi
  have Hx := Lib.hid hx
  have Hc := Lib.hid hc
  clear hi hx hc
  go_enter Try.func40, Try.ntmps40
  go_wp2_with (first
    | (at_make; refine wpList_make_full _ rfl _ _ 23 rfl w.heap.size 25 f0 (.float .f32 0) 1 Try.underlying23 hf hfz0 hfz1 _ _ _ _ n rfl rfl rfl rfl (by rw [hfz2]; omega) (by unfold maxLen; omega) (Nat.le_refl _) ?_))
  intro w3 hown3 hgrow3
  have O3 := Lib.hid (show w3.ownsRow w.heap.size 25 1 (.slice (some ⟨w.heap.size, 0, none⟩) n n) n (cellsS (fillL (fun k => opB .mul .f32 (inputOf xs k) f) n 0)) from by
    rw [toList_madeCells_one] at hown3
    rw [fillL_zero]
    simpa [cellsS] using hown3)
  have N3 := Lib.hid (show Nw w w3 from hgrow3)
  clear hown3 hgrow3
  go_wp2_with fail
  go_loopw [13] (fun i wr => FillI w.heap.size w.heap.size n (fun k => opB .mul .f32 (inputOf xs k) f) w i wr) (fun i _ => n - (intOf i).toNat)
  case atStart => exact ⟨0, by omega, rfl, O3.out, N3.out⟩
  case round =>
    obtain ⟨k, hk, rfl, how, hnw⟩ := hrel
    have Ow := Lib.hid how
    have Nr := Lib.hid hnw
    clear how hnw
    by_cases hlt : k < n
    · obtain ⟨x, hxk⟩ : ∃ x, xs[k]? = some x := ⟨xs[k]'(by rw [Hx.out]; exact hlt), List.getElem?_eq_getElem _⟩
      obtain ⟨g, cap, hv, hcap, hmax, hgs, e0⟩ := own_sample (own_nw Hi.out Nr.out) hxk Hx.out.symm
      cases hv
      have hcx := Hc.out x (List.mem_of_getElem? hxk)
      have r1 := hcx.res
      have d1 := hcx.fdr
      have e1 := Ow.out.cellAt k (by omega)
      rw [fillL_cell _ n k hlt] at e1
      have e2 := Ow.out.frozenAt k
      have hset := Ow.out.stored k (.float .f32 (opB .mul .f32 (inputOf xs k) f))
      rw [fillL_set (fun k => opB .mul .f32 (inputOf xs k) f) n k hlt] at hset
      have hin : inputOf xs k = x := by unfold inputOf; rw [List.getD_eq_getElem?_getD, hxk]; rfl
      rw [hin] at hset
      have F := Lib.hid hset.1
      have N2 := Lib.hid (Nr.out.set (p := ⟨w.heap.size, k, none⟩) (by show w.heap.size ≤ w.heap.size; omega) (.float .f32 (opB .mul .f32 x f)))
      unfold maxLen at hmax
      clear hset hxk hcx hin
      go_wp2_with fail
      go_roundw
      case rel => exact ⟨k + 1, by omega, by rw [show ((k + 1 : Nat) : Int) = (k : Int) + 1 from by omega], F.out, N2.out⟩
      case measure => simp only [intOf]; omega
    · obtain rfl : k = n := by omega
      go_wp2_with fail
      go_ret
      exact ⟨_, rfl, by have h := Ow.out; rw [fillL_full, scaled_eq xs _ f Hx.out] at h; exact h, Nr.out⟩

end Go.Proofs.Ytamboboncpjodaa

/- The walks of IsRoom and isPlace, of the products of weights, of weighed modes, RoomBody and RingRoom, over valid rooms with weights from -1 to 1.
   Conditions: those that each statement names. -/
namespace Go.Proofs.Ytamboboncpjodaa
open Go Go.RowKit

theorem sixteen_s : Sm 1098907648 ∧ S 1098907648 = 16 := by
  have h : Ieee.single.read 1098907648 = .number false 8388608 (-19) := by decide
  refine ⟨⟨_, _, _, h⟩, ?_⟩
  rw [show S 1098907648 = _ from Flo.V_eq h]
  unfold Flo.val
  have := Flo.pw_neg_mul 19
  rw [show Flo.pw 19 = 524288 from Flo.pw_nat 19] at this
  simp only [Bool.false_eq_true, if_false]
  have e2 : ((8388608 : Nat) : Rat) = 8388608 := rfl
  rw [e2]; grind
theorem sm_nan {b : Nat} (h : Sm b) : nan32 b = false := by
  obtain ⟨t, k, l, hr⟩ := h
  unfold nan32; rw [show FloatKind.f32.decode b = _ from hr]; rfl

theorem isWeight_ok (x : Nat) (hx : Wt x) (w : World) :
    Calls Try.prog 71 #[.float .f32 x] w fun e w' => e = .returned (.bool true) ∧ w = w' := by
  have hst : stickB x 1098907648 = true := (stick_iff hx.1 sixteen_s.1).2 (by rw [sixteen_s.2]; have := ra_one hx.2; grind)
  have hn := sm_nan sixteen_s.1
  go_enter Try.func71, Try.ntmps71
  go_wp2_with fail
  refine (implAbs_wide x (sm_nan hx.1) _).mono ?_
  rintro e w1 ⟨⟨q, rfl, hq⟩, rfl⟩
  have hr : (FloatKind.f32.format.order q 1098907648 == some .lt || FloatKind.f32.format.order q 1098907648 == some .eq) = true := by
    rw [← hst]
    unfold stickB
    rw [hn, show FloatKind.f64.format.order (labs (wid x)) (wid 1098907648) = FloatKind.f32.format.order q 1098907648 from hq.order_wid hn]; rfl
  go_wp2
  go_ret
  exact ⟨by simp [hr], rfl⟩

theorem areWeights_ok (xs : List Nat) (n b : Nat) (v : Value) (hn : xs.length = n) (hn16 : n ≤ 64) (hx : ∀ x ∈ xs, Wt x) (w : World) (h : w.ownsRow b 25 1 v n (cellsS xs)) :
    Calls Try.prog 53 #[v] w (TestP true w) := by
  obtain ⟨va, vc, rfl⟩ := own_shape' h
  have H := Lib.hid h
  have Hn := Lib.hid hn
  have Hx := Lib.hid hx
  clear h hn hx
  go_enter Try.func53, Try.ntmps53
  go_wp2_with fail
  go_loopw [7] (fun i wr => ValI n w i wr) (fun i _ => n - (intOf i).toNat)
  case atStart => exact ⟨0, by omega, rfl, Nw.refl _⟩
  case round =>
    obtain ⟨k, hk, rfl, hnw⟩ := hrel
    have Nr := Lib.hid hnw
    clear hnw
    by_cases hlt : k < n
    · obtain ⟨x, hxk⟩ : ∃ x, xs[k]? = some x := ⟨xs[k]'(by rw [Hn.out]; exact hlt), List.getElem?_eq_getElem _⟩
      obtain ⟨g1, cap1, hv1, hcap1, hmax1, -, e1⟩ := own_sample (own_nw H.out Nr.out) hxk Hn.out.symm
      cases hv1
      have Hw := Lib.hid (Hx.out x (List.mem_of_getElem? hxk))
      unfold maxLen at hmax1
      clear hxk
      go_wp2_with fail
      refine (isWeight_ok x Hw.out _).mono ?_
      rintro e w5 ⟨rfl, rfl⟩
      go_wp2_with fail
      go_roundw
      case rel => exact ⟨k + 1, by omega, by rw [show ((k + 1 : Nat) : Int) = (k : Int) + 1 from by omega], Nr.out⟩
      case measure => simp only [intOf]; omega
    · go_wp2_with fail
      go_ret
      exact ⟨rfl, Nr.out⟩

/-- a room in memory: at most 16 modes, all valid; places with weights from -1 to 1 -/
structure RoomV (ms : List M4) (rows : List (List Nat)) (q P b bs : Nat) (mv sv : Value) (w : World) : Prop where
  hq : ms.length = q
  hq16 : q ≤ 16
  hP : rows.length = P
  hP16 : P ≤ 16
  ok : ∀ m ∈ ms, m.ok
  wt : ∀ r ∈ rows, ∀ x ∈ r, Wt x
  om : w.ownsRow b 76 2 mv q (cellsM ms)
  rs : RowsR w bs q sv rows
theorem RoomV.nw {ms : List M4} {rows : List (List Nat)} {q P b bs : Nat} {mv sv : Value} {w w' : World} (h : RoomV ms rows q P b bs mv sv w) (n : Nw w w') : RoomV ms rows q P b bs mv sv w' :=
  ⟨h.hq, h.hq16, h.hP, h.hP16, h.ok, h.wt, own_nw h.om n, h.rs.nw n⟩

set_option maxRecDepth 100000 in
theorem isRoom_ok (ms : List M4) (rows : List (List Nat)) (q P b bs : Nat) (mv sv : Value) (w : World) (h : RoomV ms rows q P b bs mv sv w) :
    Calls Try.prog 34 #[.agg #[mv, sv]] w (TestP true w) := by
  obtain ⟨ma, mc, rfl⟩ := own_shape' h.om
  obtain ⟨sa, sc, rfl⟩ := h.rs.shape
  have hP16 := h.hP16
  have e := h.hP
  rw [e] at h ⊢
  have N0 := Lib.hid ((Nw.refl w).alloc (.cells #[.slice ma q mc, .slice sa P sc] 41 (0, 0)))
  have B0 := Lib.hid (Has2.new w 41 (.slice ma q mc) (.slice sa P sc))
  have H := Lib.hid h
  have E := Lib.hid e
  clear h e
  go_enter Try.func34, Try.ntmps34
  obtain ⟨b0, b1, b2, b3, b4⟩ := B0.out
  go_wp2_with fail
  refine (implIsBody_ok ms H.out.ok q b _ H.out.hq H.out.hq16 _ (own_nw H.out.om N0.out)).mono ?_
  rintro e w1 ⟨rfl, n1⟩
  have B1 := Lib.hid (B0.out.nw n1)
  have N1 := Lib.hid (N0.out.trans n1)
  clear n1 b0 b1 b2 b3 b4
  obtain ⟨b0, b1, b2, b3, b4⟩ := B1.out
  go_wp2_with fail
  go_loopw [19] (fun i wr => ValI P w i wr ∧ Nw w1 wr) (fun i _ => P - (intOf i).toNat)
  case atStart => exact ⟨⟨0, by omega, rfl, N1.out⟩, Nw.refl _⟩
  case round =>
    obtain ⟨⟨k, hk, rfl, hnw⟩, hn1⟩ := hrel
    have Nr := Lib.hid (And.intro hnw hn1)
    clear hnw hn1 b0 b1 b2 b3 b4
    by_cases hlt : k < P
    · obtain ⟨r, hr⟩ : ∃ r, rows[k]? = some r := ⟨rows[k]'(by rw [E.out]; exact hlt), List.getElem?_eq_getElem _⟩
      obtain ⟨g, cap, ra, rc, hv, hcap, hmax, hgs, e1, own⟩ := (H.out.rs.nw Nr.out.1).at E.out.symm hr
      cases hv
      have Hl := Lib.hid (H.out.rs.lens r (List.mem_of_getElem? hr))
      have Hw := Lib.hid (H.out.wt r (List.mem_of_getElem? hr))
      have Ow := Lib.hid own
      have B2 := Lib.hid (B1.out.nw Nr.out.2)
      have hq16 := H.out.hq16
      obtain ⟨b0, b1, b2, b3, b4⟩ := B2.out
      unfold maxLen at hmax
      clear hr own
      go_wp2_with fail
      refine (areWeights_ok r q _ _ Hl.out (by omega) Hw.out _ Ow.out).mono ?_
      rintro e w5 ⟨rfl, n5⟩
      have N5 := Lib.hid (And.intro (Nr.out.1.trans n5) (Nr.out.2.trans n5))
      clear n5 e1 b0 b1 b2 b3 b4
      go_wp2_with fail
      go_roundw
      case rel => exact ⟨⟨k + 1, by omega, by rw [show ((k + 1 : Nat) : Int) = (k : Int) + 1 from by omega], N5.out.1⟩, N5.out.2⟩
      case measure => simp only [intOf]; omega
    · go_wp2_with fail
      go_ret
      exact ⟨rfl, Nr.out.1⟩

theorem isPlace_ok (mv : Value) (sa : Option Addr) (P sc p : Nat) (hP : P ≤ 64) (hp : p ≤ 64) (w : World) :
    Calls Try.prog 35 #[.agg #[mv, .slice sa P sc], .int .i64 (p : Int)] w (TestP (decide (p < P)) w) := by
  have N0 := Lib.hid ((Nw.refl w).alloc (.cells #[mv, .slice sa P sc] 41 (0, 0)))
  have B0 := Lib.hid (Has2.new w 41 mv (.slice sa P sc))
  go_enter Try.func35, Try.ntmps35
  obtain ⟨b0, b1, b2, b3, b4⟩ := B0.out
  go_wp2_with fail
  go_ret
  exact ⟨by simp, N0.out⟩
end Go.Proofs.Ytamboboncpjodaa

/- The walks of the products of weights, of weighed modes, RoomBody and RingRoom.
   Conditions: those that each statement names. -/
namespace Go.Proofs.Ytamboboncpjodaa
open Go Go.RowKit

theorem mulW_range (xs ys : List Nat) (n : Nat) (h : xs.length = n) (h2 : ys.length = n) : (List.range n).map (fun k => opB .mul .f32 (inputOf xs k) (inputOf ys k)) = mulW xs ys := by
  subst h
  apply List.ext_getElem?
  intro i
  unfold mulW
  rw [List.getElem?_zipWith]
  by_cases hi : i < xs.length
  · have hj : i < ys.length := by omega
    simp [hi, hj, inputOf]
  · simp [hi, show xs.length ≤ i from by omega]

set_option maxRecDepth 100000 in
set_option maxHeartbeats 1600000 in
theorem multiplySamples_ok (xs ys : List Nat) (n bi bj : Nat) (v u : Value) (hx : xs.length = n) (hy : ys.length = n) (hn : n ≤ 64) (w : World)
    (hi : w.ownsRow bi 25 1 v n (cellsS xs)) (hj : w.ownsRow bj 25 1 u n (cellsS ys)) (wx : ∀ x ∈ xs, Wt x) (wy : ∀ x ∈ ys, Wt x) :
    Calls Try.prog 51 #[v, u] w (RowF (mulW xs ys) n w) := by
  obtain ⟨va, vc, rfl⟩ := own_shape' hi
  obtain ⟨ua, uc, rfl⟩ := own_shape' hj
  obtain ⟨f0, hf, hfz0, hfz1, hfz2⟩ := info_parts info_f32
  have Hi := Lib.hid hi
  have Hj := Lib.hid hj
  have Hx := Lib.hid (And.intro hx (And.intro hy (And.intro wx wy)))
  clear hi hj hx hy wx wy
  go_enter Try.func51, Try.ntmps51
  go_wp2_with (first
    | (at_make; refine wpList_make_full _ rfl _ _ 23 rfl w.heap.size 25 f0 (.float .f32 0) 1 Try.underlying23 hf hfz0 hfz1 _ _ _ _ n rfl rfl rfl rfl (by rw [hfz2]; omega) (by unfold maxLen; omega) (Nat.le_refl _) ?_))
  intro w3 hown3 hgrow3
  obtain ⟨f, hF⟩ : ∃ f : Nat → Nat, f = fun k => opB .mul .f32 (inputOf xs k) (inputOf ys k) := ⟨_, rfl⟩
  have O3 := Lib.hid (show w3.ownsRow w.heap.size 25 1 (.slice (some ⟨w.heap.size, 0, none⟩) n n) n (cellsS (fillL f n 0)) from by
    rw [toList_madeCells_one] at hown3
    rw [fillL_zero]
    simpa [cellsS] using hown3)
  have N3 := Lib.hid (show Nw w w3 from hgrow3)
  clear hown3 hgrow3
  go_wp2_with fail
  go_loopw [12] (fun i wr => FillI w.heap.size w.heap.size n f w i wr) (fun i _ => n - (intOf i).toNat)
  case atStart => exact ⟨0, by omega, rfl, O3.out, N3.out⟩
  case round =>
    obtain ⟨k, hk, rfl, how, hnw⟩ := hrel
    have Ow := Lib.hid how
    have Nr := Lib.hid hnw
    clear how hnw
    by_cases hlt : k < n
    · obtain ⟨x, hxk⟩ : ∃ x, xs[k]? = some x := ⟨xs[k]'(by rw [Hx.out.1]; exact hlt), List.getElem?_eq_getElem _⟩
      obtain ⟨y, hyk⟩ : ∃ y, ys[k]? = some y := ⟨ys[k]'(by rw [Hx.out.2.1]; exact hlt), List.getElem?_eq_getElem _⟩
      obtain ⟨g, cap, hv, hcap, hmax, hgs, e0⟩ := own_sample (own_nw Hi.out Nr.out) hxk Hx.out.1.symm
      cases hv
      obtain ⟨g', cap', hv, hcap', hmax', hgs', e0'⟩ := own_sample (own_nw Hj.out Nr.out) hyk Hx.out.2.1.symm
      cases hv
      have hcx := (wt_mul x y (Hx.out.2.2.1 x (List.mem_of_getElem? hxk)) (Hx.out.2.2.2 y (List.mem_of_getElem? hyk))).1
      have hrun := fun w => hcx.runs (P := Try.prog) (.inr (.inr rfl)) 25 w
      have hset := Ow.out.stored k (.float .f32 (f k))
      rw [fillL_set f n k hlt] at hset
      have hin : f k = opB .mul .f32 x y := by rw [hF]; unfold inputOf; simp only [List.getD_eq_getElem?_getD, hxk, hyk]; rfl
      rw [hin] at hset
      have F := Lib.hid hset.1
      have N2 := Lib.hid (Nr.out.set (p := ⟨w.heap.size, k, none⟩) (by show w.heap.size ≤ w.heap.size; omega) (.float .f32 (opB .mul .f32 x y)))
      unfold maxLen at hmax hmax'
      clear hset hxk hyk hcx hin
      go_wp2_with fail
      refine wp_region_still_tail 11 (by kernel_rfl) (by kernel_rfl) ?_
      simp only [List.take_succ_cons, List.take_zero, List.drop_succ_cons, List.drop_zero]
      repeat still_step
      refine wpStill_nil ?_
      change wpList _ _ _ _ _ (wr.drewN 1)
      have Ow2 := Lib.hid (own_nw Ow.out ((Nw.refl wr).draw 1))
      have e1 := Ow2.out.cellAt k (by omega)
      rw [fillL_cell _ n k hlt] at e1
      have e2 := Ow2.out.frozenAt k
      have F' := Lib.hid (show ((wr.drewN 1).setCell ⟨w.heap.size, k, none⟩ (.float .f32 (opB .mul .f32 x y))).ownsRow w.heap.size 25 1 (.slice (some ⟨w.heap.size, 0, none⟩) n n) n (cellsS (fillL f n (k + 1))) from own_nw F.out ((Nw.refl _).draw 1))
      have N2' := Lib.hid (show Nw w ((wr.drewN 1).setCell ⟨w.heap.size, k, none⟩ (.float .f32 (opB .mul .f32 x y))) from N2.out.draw 1)
      clear hrun e0 e0'
      generalize wr.drewN 1 = wr2 at *
      go_wp2_with fail
      go_roundw
      case rel => exact ⟨k + 1, by omega, by rw [show ((k + 1 : Nat) : Int) = (k : Int) + 1 from by omega], F'.out, N2'.out⟩
      case measure => simp only [intOf]; omega
    · obtain rfl : k = n := by omega
      have hm := mulW_range xs ys k Hx.out.1 Hx.out.2.1
      go_wp2_with fail
      go_ret
      exact ⟨_, rfl, by have h := Ow.out; rw [fillL_full, hF, hm] at h; exact h, Nr.out⟩

/-! ### weighed modes -/
def weighK (ms : List M4) (ws : List Nat) (k : Nat) : List M4 := (weighL ms ws).take k ++ ms.drop k
theorem weighK_zero (ms : List M4) (ws : List Nat) : weighK ms ws 0 = ms := by simp [weighK]
theorem weighK_full (ms : List M4) (ws : List Nat) (n : Nat) (h : ms.length = n) (hw : ws.length = n) : weighK ms ws n = weighL ms ws := by
  unfold weighK
  rw [List.take_of_length_le (by rw [weighL_len ms ws (by omega)]; omega), List.drop_of_length_le (by omega), List.append_nil]
theorem weighK_len (ms : List M4) (ws : List Nat) (k : Nat) (h : ws.length = ms.length) : (weighK ms ws k).length = ms.length := by
  unfold weighK; simp [weighL_len ms ws h]; omega
theorem weighK_at (ms : List M4) (ws : List Nat) (k : Nat) (m : M4) (hl : ws.length = ms.length) (h : ms[k]? = some m) : (weighK ms ws k)[k]? = some m := by
  obtain ⟨hk, he⟩ := List.getElem?_eq_some_iff.1 h
  have hlen : ((weighL ms ws).take k).length = k := by rw [List.length_take, weighL_len ms ws hl]; omega
  unfold weighK
  rw [List.getElem?_append_right (by omega), hlen, Nat.sub_self, List.getElem?_drop, Nat.add_zero, h]
theorem weighK_set (ms : List M4) (ws : List Nat) (k : Nat) (m : M4) (x : Nat) (hl : ws.length = ms.length) (h : ms[k]? = some m) (hx : ws[k]? = some x) : (weighK ms ws k).set k (weighM x m) = weighK ms ws (k + 1) := by
  obtain ⟨hk, he⟩ := List.getElem?_eq_some_iff.1 h
  have hat := weighL_at ms ws k m x h hx
  obtain ⟨hka, hae⟩ := List.getElem?_eq_some_iff.1 hat
  have hlen : ((weighL ms ws).take k).length = k := by rw [List.length_take, weighL_len ms ws hl]; omega
  unfold weighK
  rw [List.take_succ_eq_append_getElem hka, hae, List.drop_eq_getElem_cons hk, he, List.set_append_right _ _ (by omega), hlen, Nat.sub_self]
  simp
theorem cellsM_setg (l : List M4) (k : Nat) (m m' : M4) (h : l[k]? = some m) (hg : m'.pr = m.pr ∧ m'.pi = m.pi) :
    (cellsM l).set (k * 2 + 1) (.complex .f32 m'.gr m'.gi) = cellsM (l.set k m') := by
  induction l generalizing k with
  | nil => simp at h
  | cons x l ih =>
    cases k with
    | zero =>
      simp at h
      subst h
      simp [cellsM, M4.cells, hg.1, hg.2]
    | succ k =>
      have hk := ih k (by simpa using h)
      simp only [cellsM, List.flatMap_cons, List.set_cons_succ] at *
      rw [show (k + 1) * 2 + 1 = k * 2 + 1 + 2 from by omega]
      simp only [M4.cells, List.cons_append, List.nil_append, List.set_cons_succ]
      rw [hk]

def WeighI (ms : List M4) (ws : List Nat) (n base : Nat) (v : Value) (w : World) (i : Value) (wr : World) : Prop :=
  ∃ k : Nat, k ≤ n ∧ i = .int .i64 (k : Int) ∧ wr.ownsRow base 76 2 v n (cellsM (weighK ms ws k)) ∧ Nw w wr

set_option maxRecDepth 100000 in
set_option maxHeartbeats 1600000 in
theorem weighModes_ok (ms : List M4) (hms : ∀ m ∈ ms, m.ok) (ws : List Nat) (n bm bi : Nat) (v u : Value) (hn : ms.length = n) (hw : ws.length = n) (hn16 : n ≤ 16) (hwt : ∀ x ∈ ws, Wt x) (w : World)
    (hm : w.ownsRow bm 76 2 v n (cellsM ms)) (hi : w.ownsRow bi 25 1 u n (cellsS ws)) :
    Calls Try.prog 37 #[v, u] w (RowP (weighL ms ws) w) := by
  obtain ⟨va, vc, rfl⟩ := own_shape' hm
  obtain ⟨ua, uc, rfl⟩ := own_shape' hi
  have Hm := Lib.hid hm
  have Hi := Lib.hid hi
  have Hs := Lib.hid (And.intro hms (And.intro hn (And.intro hw hwt)))
  have hl : ws.length = ms.length := by omega
  have Hl := Lib.hid hl
  clear hm hi hms hn hw hwt hl
  go_enter Try.func37, Try.ntmps37
  go_wp2_with fail
  refine (clone_modes ms n bm _ Hs.out.2.1 (by omega) _ Hm.out).mono ?_
  rintro e w1 ⟨v1, rfl, own1, n1⟩
  obtain ⟨va1, vc1, rfl⟩ := own_shape' own1
  rw [Hs.out.2.1] at own1 ⊢
  have O1 := Lib.hid own1
  have N1 := Lib.hid n1
  clear own1 n1
  go_wp2_with fail
  go_loopw [12] (fun i wr => WeighI ms ws n w.heap.size (.slice va1 n vc1) w i wr) (fun i _ => n - (intOf i).toNat)
  case atStart => exact ⟨0, by omega, rfl, by rw [weighK_zero]; exact O1.out, N1.out⟩
  case round =>
    obtain ⟨k, hk, rfl, own, hN⟩ := hrel
    have Ow := Lib.hid own
    have Nr := Lib.hid hN
    clear own hN
    by_cases hlt : k < n
    · obtain ⟨m, hmk⟩ : ∃ m, ms[k]? = some m := ⟨ms[k]'(by rw [Hs.out.2.1]; exact hlt), List.getElem?_eq_getElem _⟩
      obtain ⟨x, hxk⟩ : ∃ x, ws[k]? = some x := ⟨ws[k]'(by rw [Hs.out.2.2.1]; exact hlt), List.getElem?_eq_getElem _⟩
      obtain ⟨g, cap, hv, hcap, hmax, hgs, e1, e2⟩ := own_mode (own_nw Hm.out Nr.out) hmk Hs.out.2.1.symm
      cases hv
      obtain ⟨g1, cap1, hv, hcap1, hmax1, hgs1, e3⟩ := own_sample (own_nw Hi.out Nr.out) hxk Hs.out.2.2.1.symm
      cases hv
      obtain ⟨g2, cap2, hv, hcap2, hmax2, hgs2, -, -⟩ := own_mode Ow.out (weighK_at ms ws k m Hl.out hmk) (by rw [weighK_len ms ws k Hl.out, Hs.out.2.1])
      cases hv
      have Hmk := Lib.hid (And.intro hmk hxk)
      have Hmo := Lib.hid (Hs.out.1 m (List.mem_of_getElem? hmk))
      have Hxo := Lib.hid (Hs.out.2.2.2 x (List.mem_of_getElem? hxk))
      unfold maxLen at hmax hmax1 hmax2
      clear hmk hxk
      have K1 := Lib.hid (HasMode.new wr 76 m.pr m.pi m.gr m.gi)
      have K2 := Lib.hid (Ow.out.alloc (.cells #[.complex .f32 m.pr m.pi, .complex .f32 m.gr m.gi] 76 (0, 0)))
      have K3 := Lib.hid (show (wr.alloc (.cells #[.complex .f32 m.pr m.pi, .complex .f32 m.gr m.gi] 76 (0, 0))).cell? ⟨g1, k, none⟩ = some (.float .f32 x) from Lib.cell?_alloc_some _ e3)
      have K5 := Lib.hid (Nr.out.alloc (.cells #[.complex .f32 m.pr m.pi, .complex .f32 m.gr m.gi] 76 (0, 0)))
      go_wp2_with fail
      obtain ⟨w4, hw4⟩ : ∃ w4, w4 = wr.alloc (.cells #[.complex .f32 m.pr m.pi, .complex .f32 m.gr m.gi] 76 (0, 0)) := ⟨_, rfl⟩
      rw [← hw4] at K1 K2 K3 K5
      rw [← hw4]
      clear hw4 e1 e2 e3
      obtain ⟨l0, l1, l2, l3, l4⟩ := K1.out
      have k3 := K3.out
      obtain ⟨c1, c2⟩ := weighM_calm m x Hmo.out Hxo.out
      refine wp_region_still_tail 9 (by kernel_rfl) (by kernel_rfl) ?_
      simp only [List.take_succ_cons, List.take_zero, List.drop_succ_cons, List.drop_zero]
      repeat still_step
      still_call ((implScale_ok _ _ _ _ c1 c2).mono fun _ _ h => ⟨h.1, h.2.symm⟩)
      refine wpStill_nil ?_
      change wpList _ _ _ _ _ (w4.drewN 1)
      have G2 := Lib.hid (own_nw K2.out ((Nw.refl w4).draw 1))
      have G5 := Lib.hid (K5.out.draw 1)
      have hs4 := (K2.out.lt _ rfl)
      clear l0 l1 l2 l3 l4 k3 c1 c2
      generalize w4.drewN 1 = w5 at *
      have e3 := G2.out.cellAt (k * 2 + 1) (by omega)
      have hc := (cellsM_at _ k m (weighK_at ms ws k m Hl.out Hmk.out.1)).2
      rw [show 2 * k + 1 = k * 2 + 1 from by omega] at hc
      rw [hc] at e3
      have e4 := G2.out.frozenAt (k * 2 + 1)
      have hset := G2.out.stored (k * 2 + 1) (.complex .f32 (weighM x m).gr (weighM x m).gi)
      rw [cellsM_setg (weighK ms ws k) k m (weighM x m) (weighK_at ms ws k m Hl.out Hmk.out.1) ⟨rfl, rfl⟩, weighK_set ms ws k m x Hl.out Hmk.out.1 Hmk.out.2] at hset
      have hfin : WeighI ms ws n w.heap.size (.slice (some ⟨g2, 0, none⟩) n vc1) w (.int .i64 ((k : Int) + 1)) (w5.setCell ⟨g2, k * 2 + 1, none⟩ (.complex .f32 (opB .mul .f32 m.gr x) (opB .mul .f32 m.gi x))) :=
        ⟨k + 1, by omega, by rw [show ((k + 1 : Nat) : Int) = (k : Int) + 1 from by omega], hset.1, G5.out.set (by show w.heap.size ≤ g2; exact hs4.1) _⟩
      have Hfin := Lib.hid hfin
      clear hfin hset hc
      go_wp2_with fail
      go_roundw
      case rel => exact Hfin.out
      case measure => simp only [intOf]; omega
    · obtain rfl : k = n := by omega
      have hwl := weighL_len ms ws Hl.out
      go_wp2_with fail
      go_ret
      refine ⟨_, rfl, ?_, Nr.out⟩
      have h := Ow.out
      rw [weighK_full ms ws k Hs.out.2.1 Hs.out.2.2.1] at h
      rw [hwl, Hs.out.2.1]
      exact h
end Go.Proofs.Ytamboboncpjodaa

/- The walks of RoomBody and RingRoom.
   Conditions: those that each statement names. -/
namespace Go.Proofs.Ytamboboncpjodaa
open Go Go.RowKit

set_option maxRecDepth 100000 in
set_option maxHeartbeats 3200000 in
theorem roomBody_ok (ms : List M4) (rows : List (List Nat)) (q P b bs s t : Nat) (rs re : List Nat) (mv sv : Value) (w : World) (h : RoomV ms rows q P b bs mv sv w) (hs : rows[s]? = some rs) (he : rows[t]? = some re) :
    Calls Try.prog 31 #[.agg #[mv, sv], .int .i64 (s : Int), .int .i64 (t : Int)] w (DampP q (weighL ms (mulW rs re)) w) := by
  obtain ⟨ma, mc, rfl⟩ := own_shape' h.om
  obtain ⟨sa, sc, rfl⟩ := h.rs.shape
  have hP16 := h.hP16
  have hq16 := h.hq16
  have ee := h.hP
  rw [ee] at h ⊢
  have N0 := Lib.hid (((Nw.refl w).alloc (.cells #[.slice ma q mc, .slice sa P sc] 41 (0, 0))).alloc (.cells #[.slice none 0 0] 30 (0, 0)))
  have B0 := Lib.hid ((Has2.new w 41 (.slice ma q mc) (.slice sa P sc)).alloc (.cells #[.slice none 0 0] 30 (0, 0)))
  have D0 := Lib.hid (Has1.new (w.alloc (.cells #[.slice ma q mc, .slice sa P sc] 41 (0, 0))) 30 (.slice none 0 0))
  rw [show (w.alloc (.cells #[.slice ma q mc, .slice sa P sc] 41 (0, 0))).heap.size = w.heap.size + 1 from by simp] at D0
  have H := Lib.hid h
  have hsP : s < P := by have := (List.getElem?_eq_some_iff.1 hs).1; omega
  have heP : t < P := by have := (List.getElem?_eq_some_iff.1 he).1; omega
  have ds : decide (s < P) = true := by simp [hsP]
  have de : decide (t < P) = true := by simp [heP]
  have E := Lib.hid (And.intro ee (And.intro hs he))
  clear h ee hs he
  go_enter Try.func31, Try.ntmps31
  obtain ⟨b0, b1, b2, b3, b4⟩ := B0.out
  go_wp2_with fail
  refine (isRoom_ok ms rows q P b bs _ _ _ (H.out.nw N0.out)).mono ?_
  rintro e w1 ⟨rfl, n1⟩
  have B1 := Lib.hid (B0.out.nw n1)
  have D1 := Lib.hid (D0.out.nw n1)
  have N1 := Lib.hid (N0.out.trans n1)
  clear n1 b0 b1 b2 b3 b4
  obtain ⟨b0, b1, b2, b3, b4⟩ := B1.out
  go_wp2_with fail
  refine (isPlace_ok _ sa P sc s (by omega) (by omega) _).mono ?_
  rw [ds]
  rintro e w2 ⟨rfl, n2⟩
  have B2 := Lib.hid (B1.out.nw n2)
  have D2 := Lib.hid (D1.out.nw n2)
  have N2 := Lib.hid (N1.out.trans n2)
  clear n2 b0 b1 b2 b3 b4
  obtain ⟨b0, b1, b2, b3, b4⟩ := B2.out
  go_wp2_with fail
  refine (isPlace_ok _ sa P sc t (by omega) (by omega) _).mono ?_
  rw [de]
  rintro e w3 ⟨rfl, n3⟩
  have B3 := Lib.hid (B2.out.nw n3)
  have D3 := Lib.hid (D2.out.nw n3)
  have N3 := Lib.hid (N2.out.trans n3)
  have H3 := Lib.hid (H.out.nw N3.out)
  clear n3 b0 b1 b2 b3 b4
  obtain ⟨g, cap, ra, rc, hv, hcap, hmax, hgs, e1, own1⟩ := H3.out.rs.at E.out.1.symm E.out.2.1
  cases hv
  obtain ⟨g2, cap2, ta, tc, hv, hcap2, hmax2, hgs2, e2, own2⟩ := H3.out.rs.at E.out.1.symm E.out.2.2
  cases hv
  have O1 := Lib.hid own1
  have O2 := Lib.hid own2
  have L1 := Lib.hid (And.intro (H3.out.rs.lens rs (List.mem_of_getElem? E.out.2.1)) (H3.out.rs.lens re (List.mem_of_getElem? E.out.2.2)))
  have W1 := Lib.hid (And.intro (H3.out.wt rs (List.mem_of_getElem? E.out.2.1)) (H3.out.wt re (List.mem_of_getElem? E.out.2.2)))
  unfold maxLen at hmax hmax2
  clear own1 own2
  obtain ⟨b0, b1, b2, b3, b4⟩ := B3.out
  go_wp2_with fail
  refine wp_region_still_tail 10 (by kernel_rfl) (by kernel_rfl) ?_
  simp only [List.take_succ_cons, List.take_zero, List.drop_succ_cons, List.drop_zero]
  repeat still_step
  refine wpStill_nil ?_
  change wpList _ _ _ _ _ (w3.drewN 1)
  have N4 := Lib.hid (N3.out.draw 1)
  have B4 := Lib.hid (B3.out.draw 1)
  have D4 := Lib.hid (D3.out.draw 1)
  have M4' := Lib.hid (H3.out.nw ((Nw.refl w3).draw 1))
  have O1' := Lib.hid (own_nw O1.out ((Nw.refl w3).draw 1))
  have O2' := Lib.hid (own_nw O2.out ((Nw.refl w3).draw 1))
  clear b0 b1 b2 b3 b4 e1 e2
  generalize w3.drewN 1 = w4 at *
  go_wp2_with fail
  refine (multiplySamples_ok rs re q _ _ _ _ L1.out.1 L1.out.2 (by omega) _ O1'.out O2'.out W1.out.1 W1.out.2).mono ?_
  rintro e w5 ⟨v5, rfl, own5, n5⟩
  obtain ⟨pa, pc, rfl⟩ := own_shape' own5
  have O5 := Lib.hid own5
  have N5 := Lib.hid (N4.out.trans n5)
  have B5 := Lib.hid (B4.out.nw n5)
  have D5 := Lib.hid (D4.out.nw n5)
  have M5 := Lib.hid (M4'.out.nw n5)
  clear own5 n5
  obtain ⟨b0, b1, b2, b3, b4⟩ := B5.out
  have hwl := mulW_len rs re (L1.out.1.trans L1.out.2.symm)
  go_wp2_with fail
  refine (weighModes_ok ms M5.out.ok (mulW rs re) q b _ _ _ M5.out.hq (hwl.trans L1.out.1) hq16 (mulW_wt rs re W1.out.1 W1.out.2) _ M5.out.om O5.out).mono ?_
  rintro e w6 ⟨v6, rfl, own6, n6⟩
  obtain ⟨pa6, pc6, rfl⟩ := own_shape' own6
  have hl6 := weighL_len ms (mulW rs re) (by rw [hwl, L1.out.1, M5.out.hq])
  rw [hl6, M5.out.hq] at own6 ⊢
  have hl6' := hl6.trans M5.out.hq
  have N6 := Lib.hid ((N5.out.trans n6).alloc (.cells #[.slice pa6 q pc6] 30 (0, 0)))
  have O6 := Lib.hid (own6.alloc (.cells #[.slice pa6 q pc6] 30 (0, 0)))
  have D6 := Lib.hid ((D5.out.nw n6).alloc (.cells #[.slice pa6 q pc6] 30 (0, 0)))
  have E6 := Lib.hid (Has1.new w6 30 (.slice pa6 q pc6))
  have hs6 : w.heap.size + 2 ≤ w5.heap.size := by have := D5.out.1; omega
  clear own6 n6 b0 b1 b2 b3 b4
  obtain ⟨f0, f1, f2⟩ := E6.out
  go_wp2_with fail
  refine (implIsBody_ok (weighL ms (mulW rs re)) (weighL_ok ms _ M5.out.ok (mulW_wt rs re W1.out.1 W1.out.2)) q _ _ hl6' hq16 _ O6.out).mono ?_
  rintro e w7 ⟨rfl, n7⟩
  have N7 := Lib.hid (N6.out.trans n7)
  have O7 := Lib.hid (own_nw O6.out n7)
  have D7 := Lib.hid (D6.out.nw n7)
  have E7 := Lib.hid (E6.out.nw n7)
  clear n7 f0 f1 f2
  obtain ⟨f0, f1, f2⟩ := E7.out
  obtain ⟨d0, d1, d2⟩ := D7.out
  go_wp2_with fail
  exact bodyPost_ret (v := .tuple #[.agg #[.slice pa6 q pc6], .bool true]) (by simp [results, Try.results31, go_sem, d0, d1, d2]) rfl ⟨_, rfl, own_base (own_set O7.out (by show w.heap.size + 1 < w5.heap.size; omega) _) (by omega), N7.out.set (by show w.heap.size ≤ w.heap.size + 1; omega) _⟩

/-- .. and where a place is missing -/
theorem roomBody_no (ms : List M4) (rows : List (List Nat)) (q P b bs s t : Nat) (mv sv : Value) (w : World) (h : RoomV ms rows q P b bs mv sv w) (hs : s ≤ 64) (hsP : ¬ s < P) :
    Calls Try.prog 31 #[.agg #[mv, sv], .int .i64 (s : Int), .int .i64 (t : Int)] w fun e w' => e = .returned (.tuple #[.agg #[.slice none 0 0], .bool false]) ∧ Nw w w' := by
  obtain ⟨ma, mc, rfl⟩ := own_shape' h.om
  obtain ⟨sa, sc, rfl⟩ := h.rs.shape
  have hP16 := h.hP16
  have hq16 := h.hq16
  have ee := h.hP
  rw [ee] at h ⊢
  have N0 := Lib.hid (((Nw.refl w).alloc (.cells #[.slice ma q mc, .slice sa P sc] 41 (0, 0))).alloc (.cells #[.slice none 0 0] 30 (0, 0)))
  have B0 := Lib.hid ((Has2.new w 41 (.slice ma q mc) (.slice sa P sc)).alloc (.cells #[.slice none 0 0] 30 (0, 0)))
  have D0 := Lib.hid (Has1.new (w.alloc (.cells #[.slice ma q mc, .slice sa P sc] 41 (0, 0))) 30 (.slice none 0 0))
  rw [show (w.alloc (.cells #[.slice ma q mc, .slice sa P sc] 41 (0, 0))).heap.size = w.heap.size + 1 from by simp] at D0
  have H := Lib.hid h
  have ds : decide (s < P) = false := by simp [hsP]
  clear h ee
  go_enter Try.func31, Try.ntmps31
  obtain ⟨b0, b1, b2, b3, b4⟩ := B0.out
  go_wp2_with fail
  refine (isRoom_ok ms rows q P b bs _ _ _ (H.out.nw N0.out)).mono ?_
  rintro e w1 ⟨rfl, n1⟩
  have B1 := Lib.hid (B0.out.nw n1)
  have D1 := Lib.hid (D0.out.nw n1)
  have N1 := Lib.hid (N0.out.trans n1)
  clear n1 b0 b1 b2 b3 b4
  obtain ⟨b0, b1, b2, b3, b4⟩ := B1.out
  go_wp2_with fail
  refine (isPlace_ok _ sa P sc s (by omega) (by omega) _).mono ?_
  rw [ds]
  rintro e w2 ⟨rfl, n2⟩
  have D2 := Lib.hid (D1.out.nw n2)
  have N2 := Lib.hid (N1.out.trans n2)
  clear n2 b0 b1 b2 b3 b4
  obtain ⟨d0, d1, d2⟩ := D2.out
  go_wp2_with fail
  exact bodyPost_ret (v := .tuple #[.agg #[.slice none 0 0], .bool false]) (by simp [results, Try.results31, go_sem, d0, d1, d2]) rfl ⟨rfl, N2.out.set (by show w.heap.size ≤ w.heap.size + 1; omega) _⟩

/-! ### RingRoom -/
set_option maxRecDepth 100000 in
theorem ringRoom_ok (ms : List M4) (rows : List (List Nat)) (q P b bs s t p n bi : Nat) (rs re xs : List Nat) (mv sv iv : Value) (w : World) (h : RoomV ms rows q P b bs mv sv w) (hs : rows[s]? = some rs) (he : rows[t]? = some re)
    (hp : xs.length = p) (hxl : p ≤ 1048576) (hn : n ≤ 2000) (hi : w.ownsRow bi 25 1 iv p (cellsS xs)) (hok : RingOk (weighL ms (mulW rs re)) (inputOf xs) n) :
    Calls Try.prog 15 #[.agg #[mv, sv], .int .i64 (s : Int), .int .i64 (t : Int), iv, .int .i64 (n : Int)] w (RingP2 w.heap.size (ringS (weighL ms (mulW rs re)) (inputOf xs) n) n w) := by
  obtain ⟨ma, mc, rfl⟩ := own_shape' h.om
  obtain ⟨sa, sc, rfl⟩ := h.rs.shape
  obtain ⟨ia, ic, rfl⟩ := own_shape' hi
  have ee := h.hP
  have L1 := Lib.hid (And.intro (h.rs.lens rs (List.mem_of_getElem? hs)) (h.rs.lens re (List.mem_of_getElem? he)))
  have W1 := Lib.hid (mulW_wt rs re (h.wt rs (List.mem_of_getElem? hs)) (h.wt re (List.mem_of_getElem? he)))
  rw [ee] at h ⊢
  have N0 := Lib.hid ((Nw.refl w).alloc (.cells #[.slice ma q mc, .slice sa P sc] 41 (0, 0)))
  have B0 := Lib.hid (Has2.new w 41 (.slice ma q mc) (.slice sa P sc))
  have H := Lib.hid (h.nw N0.out)
  have I0 := Lib.hid (own_nw hi N0.out)
  have Hs := Lib.hid (And.intro hs (And.intro he (And.intro hp hok)))
  have hl6 : (weighL ms (mulW rs re)).length = q := by rw [weighL_len ms (mulW rs re) (by rw [mulW_len rs re (L1.out.1.trans L1.out.2.symm), L1.out.1, h.hq]), h.hq]
  have Hl := Lib.hid hl6
  have hq16 := h.hq16
  clear h hs he hp hok hi hl6 ee
  go_enter Try.func15, Try.ntmps15
  obtain ⟨b0, b1, b2, b3, b4⟩ := B0.out
  go_wp2_with fail
  refine (roomBody_ok ms rows q P b bs s t rs re _ _ _ H.out Hs.out.1 Hs.out.2.1).mono ?_
  rintro e w1 ⟨v1, rfl, own1, n1⟩
  obtain ⟨va, vc, rfl⟩ := own_shape' own1
  have N1 := Lib.hid ((N0.out.trans n1).alloc (.cells #[.slice va q vc] 30 (0, 0)))
  have O1 := Lib.hid (own1.alloc (.cells #[.slice va q vc] 30 (0, 0)))
  have I1 := Lib.hid ((own_nw I0.out n1).alloc (.cells #[.slice va q vc] 30 (0, 0)))
  have E1 := Lib.hid (Has1.new w1 30 (.slice va q vc))
  clear own1 n1 b0 b1 b2 b3 b4
  obtain ⟨f0, f1, f2⟩ := E1.out
  go_wp2_with fail
  refine (ringBody_some' (weighL ms (mulW rs re)) (weighL_ok ms _ H.out.ok W1.out) xs n q p _ _ _ _ Hl.out hq16 Hs.out.2.2.1 hxl hn _ O1.out I1.out Hs.out.2.2.2).mono ?_
  rintro e w2 ⟨g2, rfl, own2, n2⟩
  have N2 := Lib.hid (N1.out.trans n2)
  have O2 := Lib.hid (own_base own2 N1.out.size)
  clear own2 n2
  go_wp2_with fail
  go_ret2
  exact ⟨g2, rfl, O2.out, N2.out⟩

theorem ringRoom_no (ms : List M4) (rows : List (List Nat)) (q P b bs s t : Nat) (mv sv iv nv : Value) (w : World) (h : RoomV ms rows q P b bs mv sv w) (hs : s ≤ 64) (hsP : ¬ s < P) :
    Calls Try.prog 15 #[.agg #[mv, sv], .int .i64 (s : Int), .int .i64 (t : Int), iv, nv] w fun e w' => e = .returned (.tuple #[.slice none 0 0, .bool false]) ∧ Nw w w' := by
  obtain ⟨ma, mc, rfl⟩ := own_shape' h.om
  obtain ⟨sa, sc, rfl⟩ := h.rs.shape
  have ee := h.hP
  rw [ee] at h ⊢
  have N0 := Lib.hid ((Nw.refl w).alloc (.cells #[.slice ma q mc, .slice sa P sc] 41 (0, 0)))
  have B0 := Lib.hid (Has2.new w 41 (.slice ma q mc) (.slice sa P sc))
  have H := Lib.hid (h.nw N0.out)
  clear h ee
  go_enter Try.func15, Try.ntmps15
  obtain ⟨b0, b1, b2, b3, b4⟩ := B0.out
  go_wp2_with fail
  refine (roomBody_no ms rows q P b bs s t _ _ _ H.out hs hsP).mono ?_
  rintro e w1 ⟨rfl, n1⟩
  have N1 := Lib.hid ((N0.out.trans n1).alloc (.cells #[.slice none 0 0] 30 (0, 0)))
  clear n1
  go_wp2_with fail
  go_ret2
  exact ⟨rfl, N1.out⟩
end Go.Proofs.Ytamboboncpjodaa

/- What a proof of a law over one slice of bytes begins with: the argument, opened.
   Conditions: those that each statement names. -/
namespace Go.Proofs.Ytamboboncpjodaa
open Go Go.ChangeShapes Go.WideShapes Go.ChangeAt Go.RowKit

theorem own : ownKnob Try.prog.godebug = none := by kernel_rfl
theorem laidOut : laidOutB Try.prog = true := by kernel_rfl

/-- WHAT THE WALK IS TOLD OF A SLICE OF INTEGERS THAT CAME IN: it is nil; or it leads to a row of 'cap' cells, the numbers 'zs' (the first 'len' are its elements, the rest its spare room), each fitting its kind. -/
def IsRow (k : IntKind) (w : World) (a : Option Addr) (len cap : Nat) (zs : List Int) : Prop :=
  (a = none ∧ len = 0 ∧ cap = 0 ∧ zs = []) ∨
  ∃ x, a = some x ∧ len ≤ cap ∧ cap ≤ maxLen ∧ zs.length = cap ∧ (∀ i, i < zs.length → w.cell? (x.add i) = some (.int k (zs.getD i 0))) ∧ ∀ n ∈ zs, (Lit.int k n).wf = true


theorem cell_lt {w : World} {p : Addr} {v : Value} (h : w.cell? p = some v) : p.block < w.heap.size ∧ p.spot = none := by
  unfold World.cell? at h
  split at h
  · rename_i c _ _ hb
    have hs : p.spot.isSome = false := by
      cases hp : p.spot.isSome
      · rfl
      · rw [hp] at h; simp at h
    refine ⟨?_, by simpa using hs⟩
    rcases Nat.lt_or_ge p.block w.heap.size with g | g
    · exact g
    · rw [Array.getElem?_eq_none g] at hb; cases hb
  · cases h

theorem bys_of_row {w : World} {a : Option Addr} {len cap : Nat} {zs : List Int} (h : IsRow .u8 w a len cap zs) (hl : len ≤ 140737488351232) : Bys w.heap.size a len w := by
  refine ⟨hl, ?_⟩
  rcases h with ⟨rfl, rfl, _, _⟩ | ⟨x, rfl, hlc, hcm, hz, hcell, hwf⟩
  · exact .inl rfl
  · by_cases h0 : len = 0
    · exact .inl h0
    · right
      have c0 := hcell 0 (by omega)
      have e0 : x.add 0 = x := by unfold Addr.add; rw [if_pos rfl]
      rw [e0] at c0
      obtain ⟨hb, hs⟩ := cell_lt c0
      refine ⟨x.block, x.off, by cases x; simp at hs; subst hs; rfl, hb, fun k hk => ?_⟩
      have hc := hcell k (by omega)
      have hmem : zs.getD k 0 ∈ zs := by
        rw [List.getD_eq_getElem?_getD, List.getElem?_eq_getElem (by omega), Option.getD_some]
        exact List.getElem_mem _
      have hw := hwf _ hmem
      have hadd : x.add k = ⟨x.block, x.off + k, none⟩ := by
        unfold Addr.add; split
        · rename_i h0; subst h0; cases x; simp at hs; subst hs; rfl
        · rfl
      rw [hadd] at hc
      generalize zs.getD k 0 = z at hw hc
      have hz2 : 0 ≤ z ∧ z ≤ 255 := by simpa [Lit.wf, IntKind.min, IntKind.max, IntKind.signed, IntKind.bits, Int.le_sub_one_iff] using hw
      exact ⟨z.toNat, by omega, by rw [hc]; congr 2; omega⟩

end Go.Proofs.Ytamboboncpjodaa

/- An argument that is a slice of samples, opened; the walks of sameFloat, toFloat32S and eqFloat32S.
   Conditions: those that each statement names. -/
namespace Go.Proofs.Ytamboboncpjodaa
open Go Go.ChangeShapes Go.WideShapes Go.ChangeAt Go.RowKit

theorem trod_float {H : Type} {enc : TypeId × Value → H} {P : Program} {w : World} {base : Nat} {spare : Nat → Bool} {held : Bool} {fuel : Nat} {t : TypeId} {cs : List Value} {x : DataW H × List MemPlace} {k : FloatKind}
    (ht : P.underlying t = some (.float k)) (h : DataW.trod enc P w base spare held fuel t cs = some x) : ∃ n, cs = [.float k n] ∧ (Lit.float k n).wf = true := by
  cases fuel with
  | zero => simp [DataW.trod] at h
  | succ n =>
    unfold DataW.trod at h
    rw [ht] at h
    split at h <;> simp_all
theorem open_floats {H : Type} {enc : TypeId × Value → H} {P : Program} {w : World} {base : Nat} {spare : Nat → Bool} {held : Bool} {fuel : Nat} {t e : TypeId} {cs : List Value} {x : DataW H × List MemPlace} {k : FloatKind}
    (ht : P.underlying t = some (.slice e)) (he : P.underlying e = some (.float k)) (hc : P.cellsOf e = 1) (h : DataW.trod enc P w base spare held fuel t cs = some x) :
    cs = [.slice none 0 0] ∨ ∃ (a : Addr) (len cap : Nat), cs = [.slice (some a) len cap] ∧ len ≤ cap ∧ cap ≤ maxLen ∧ ∀ i, i < len → ∃ b, w.cell? (a.add i) = some (.float k b) ∧ (Lit.float k b).wf = true := by
  rcases DataW.trod_slice ht h with ⟨h0, _⟩ | ⟨a, len, cap, elems, rest, n, _, rfl, rfl, hb, hl, hm, hlen, hel, hsp, hns⟩
  · exact .inl h0
  · refine .inr ⟨a, len, cap, rfl, hl, hm, fun i hi => ?_⟩
    have h1 := hel i hi
    rw [List.getElem?_eq_getElem (by omega), hc, Nat.mul_one, Option.bind_eq_some_iff] at h1
    obtain ⟨cs', hcs, hy'⟩ := h1
    obtain ⟨m, rfl, hw⟩ := trod_float he hy'
    exact ⟨m, cell_of_cells?_one hcs, hw⟩

/-- WHAT THE WALK IS TOLD OF A SLICE OF SAMPLES: its numbers, below the block B -/
def Fls (B : Nat) (a : Option Addr) (len : Nat) (zs : List Nat) (w : World) : Prop :=
  zs.length = len ∧ (∀ z ∈ zs, z < 2 ^ 32) ∧ (len = 0 ∨ ∃ b o, a = some ⟨b, o, none⟩ ∧ b < B ∧ ∀ (k : Nat) x, zs[k]? = some x → w.cell? ⟨b, o + k, none⟩ = some (.float .f32 x))
theorem Fls.nw {B : Nat} {a : Option Addr} {len : Nat} {zs : List Nat} {w w' : World} (h : Fls B a len zs w) (hB : B ≤ w.heap.size) (hn : Nw w w') : Fls B a len zs w' := by
  obtain ⟨h1, h2, h3⟩ := h
  refine ⟨h1, h2, ?_⟩
  rcases h3 with h0 | ⟨b, o, rfl, hb, hc⟩
  · exact .inl h0
  · exact .inr ⟨b, o, rfl, hb, fun k x hx => by rw [hn.cell (by show b < w.heap.size; omega)]; exact hc k x hx⟩
theorem Fls.at {B : Nat} {a : Option Addr} {len : Nat} {zs : List Nat} {w : World} (h : Fls B a len zs w) {k x : Nat} (hx : zs[k]? = some x) :
    ∃ b o, a = some ⟨b, o, none⟩ ∧ b < B ∧ w.cell? ⟨b, o + k, none⟩ = some (.float .f32 x) := by
  obtain ⟨h1, h2, h3⟩ := h
  have := (List.getElem?_eq_some_iff.1 hx).1
  rcases h3 with h0 | ⟨b, o, rfl, hb, hc⟩
  · omega
  · exact ⟨b, o, rfl, hb, hc k x hx⟩
theorem fls_of {w : World} {a : Addr} {len : Nat} (h : ∀ i, i < len → ∃ b, w.cell? (a.add i) = some (.float .f32 b) ∧ (Lit.float .f32 b).wf = true) : ∃ zs, Fls w.heap.size (some a) len zs w := by
  have hz : ∀ n, n ≤ len → ∃ zs : List Nat, zs.length = n ∧ ∀ (k : Nat) x, zs[k]? = some x → w.cell? (a.add k) = some (.float .f32 x) ∧ x < 2 ^ 32 := by
    intro n
    induction n with
    | zero => intro _; exact ⟨[], rfl, fun k x hx => by simp at hx⟩
    | succ n ih =>
      intro hn
      obtain ⟨zs, hl, hk⟩ := ih (by omega)
      obtain ⟨b, hb, hw⟩ := h n (by omega)
      refine ⟨zs ++ [b], by simp [hl], fun k x hx => ?_⟩
      by_cases hkn : k < n
      · exact hk k x (by rwa [List.getElem?_append_left (by omega)] at hx)
      · rw [List.getElem?_append_right (by omega)] at hx
        have hk0 : k - zs.length = 0 := by
          have := (List.getElem?_eq_some_iff.1 hx).1
          simp at this; omega
        rw [hk0] at hx
        simp at hx
        subst hx
        obtain rfl : k = n := by omega
        exact ⟨hb, by simpa [Lit.wf] using hw⟩
  obtain ⟨zs, hl, hk⟩ := hz len (Nat.le_refl _)
  refine ⟨zs, hl, fun z hz => ?_, ?_⟩
  · obtain ⟨i, hi⟩ := List.getElem?_of_mem hz
    exact (hk i z hi).2
  · by_cases h0 : len = 0
    · exact .inl h0
    · right
      obtain ⟨b, hb, -⟩ := h 0 (by omega)
      have e0 : a.add 0 = a := by unfold Addr.add; rw [if_pos rfl]
      rw [e0] at hb
      obtain ⟨h1, h2⟩ := cell_lt hb
      refine ⟨a.block, a.off, by cases a; simp at h2; subst h2; rfl, h1, fun k x hx => ?_⟩
      have := (hk k x hx).1
      have hadd : a.add k = ⟨a.block, a.off + k, none⟩ := by
        unfold Addr.add; split
        · rename_i h0; subst h0; cases a; simp at h2; subst h2; rfl
        · rfl
      rwa [hadd] at this

/-! ### sameFloat -/
theorem one_quoF (a : Nat) (h : nan64 a = false) : ∃ r, floatBits .quo .f64 4607182418800017408 a = some r := by
  have h1 : Ieee.double.read 4607182418800017408 = .number false 4503599627370496 (-52) := by decide
  have h : (Ieee.double.read a).isNaN = false := h
  show ∃ r, Ieee.double.div 4607182418800017408 a = some r
  unfold Ieee.Format.div
  rw [h1]
  cases hd : Ieee.double.read a with
  | number s m p => by_cases hm : m = 0 <;> simp [Ieee.Datum.quotient, hm]
  | infinity s => exact ⟨_, rfl⟩
  | nan s f => rw [hd] at h; simp [Ieee.Datum.isNaN] at h

def fillF (zs : List Nat) (n k : Nat) : List Nat := zs.take k ++ List.replicate (n - k) 0
theorem fillF_zero (zs : List Nat) (n : Nat) : fillF zs n 0 = List.replicate n 0 := by simp [fillF]
theorem fillF_full (zs : List Nat) (n : Nat) (h : zs.length = n) : fillF zs n n = zs := by subst h; simp [fillF]
theorem fillF_set (zs : List Nat) (n k x : Nat) (hx : zs[k]? = some x) (hl : zs.length = n) : (cellsS (fillF zs n k)).set k (.float .f32 x) = cellsS (fillF zs n (k + 1)) := by
  obtain ⟨h, he⟩ := List.getElem?_eq_some_iff.1 hx
  unfold fillF
  rw [List.take_succ_eq_append_getElem h, he, show n - k = (n - (k + 1)) + 1 from by omega, List.replicate_succ]
  simp only [cellsS, List.map_append, List.map_cons, List.map_nil, List.append_assoc, List.singleton_append]
  rw [List.set_append_right _ _ (by simp; omega)]
  simp [Nat.min_eq_left (Nat.le_of_lt h)]
theorem fillF_cell (zs : List Nat) (n k : Nat) (h : k < n) (hl : zs.length = n) : (cellsS (fillF zs n k))[k]? = some (.float .f32 0) := by
  unfold fillF cellsS
  rw [List.getElem?_map, List.getElem?_append_right (by simp; omega)]
  simp [List.getElem?_replicate]
  omega

def CopyI (B g n : Nat) (zs : List Nat) (w : World) (i : Value) (wr : World) : Prop :=
  ∃ k : Nat, k ≤ n ∧ i = .int .i64 (k : Int) ∧ wr.ownsRow B 25 1 (.slice (some ⟨g, 0, none⟩) n n) n (cellsS (fillF zs n k)) ∧ Nw w wr
def CopyP (zs : List Nat) (n : Nat) (w : World) (e : Ending) (w' : World) : Prop :=
  ∃ g : Nat, e = .returned (.slice (some ⟨g, 0, none⟩) n n) ∧ w'.ownsRow w.heap.size 25 1 (.slice (some ⟨g, 0, none⟩) n n) n (cellsS zs) ∧ Nw w w'

theorem widen_sameF (x : Nat) (w1 w2 : World) : sameF (fcv w1 .f32 x .f64) (fcv w2 .f32 x .f64) = true :=
  sameF_fab (by rw [fab_wide, fab_wide])
def CountI (n : Nat) (w : World) (i : Value) (wr : World) : Prop := ∃ k : Nat, k ≤ n ∧ i = .int .i64 (k : Int) ∧ Nw w wr

end Go.Proofs.Ytamboboncpjodaa

/- The walks of EnergyOf, the program's and the model's: the sum of the squares, but for the bits of NaN; of finite samples it is a number.
   Conditions: those that each statement names. -/
namespace Go.Proofs.Ytamboboncpjodaa
open Go Go.RowKit

/-- the sum of the squares, but for the bits of NaN -/
def enA (zs : List Nat) : Option Nat := zs.foldl (fun s x => fA .add .f64 s (fA .mul .f64 (wA x) (wA x))) (fab .f64 0)
theorem enA_take (zs : List Nat) (k x : Nat) (h : zs[k]? = some x) : enA (zs.take (k + 1)) = fA .add .f64 (enA (zs.take k)) (fA .mul .f64 (wA x) (wA x)) := by
  obtain ⟨hk, he⟩ := List.getElem?_eq_some_iff.1 h
  unfold enA
  rw [List.take_succ_eq_append_getElem hk, List.foldl_append, he]; rfl

def EnI (zs : List Nat) (n : Nat) (w : World) (y i : Value) (wr : World) : Prop :=
  ∃ k s : Nat, k ≤ n ∧ i = .int .i64 (k : Int) ∧ y = .float .f64 s ∧ fab .f64 s = enA (zs.take k) ∧ Nw w wr
def EnP (zs : List Nat) (w : World) (e : Ending) (w' : World) : Prop := ∃ s, e = .returned (.float .f64 s) ∧ fab .f64 s = enA zs ∧ Nw w w'

theorem implEnergy_ok (zs : List Nat) (n b : Nat) (v : Value) (hl : zs.length = n) (hn : n ≤ 1048576) (w : World) (h : w.ownsRow b 25 1 v n (cellsS zs)) :
    Calls Try.prog 22 #[v] w (EnP zs w) := by
  obtain ⟨va, vc, rfl⟩ := own_shape' h
  have H := Lib.hid h
  have Hl := Lib.hid hl
  clear h hl
  go_enter Try.func22, Try.ntmps22
  go_wp2_with fail
  go_loopw [3, 8] (fun y i wr => EnI zs n w y i wr) (fun _ i _ => n - (intOf i).toNat)
  case atStart => exact ⟨0, 0, by omega, rfl, rfl, rfl, Nw.refl _⟩
  case round =>
    obtain ⟨k, s, hk, rfl, rfl, hs, hN⟩ := hrel
    have Hs := Lib.hid hs
    have Nr := Lib.hid hN
    clear hs hN
    by_cases hlt : k < n
    · obtain ⟨x, hxk⟩ : ∃ x, zs[k]? = some x := ⟨zs[k]'(by rw [Hl.out]; exact hlt), List.getElem?_eq_getElem _⟩
      obtain ⟨g1, cap1, hv1, hcap1, hmax1, -, e1⟩ := own_sample (own_nw H.out Nr.out) hxk Hl.out.symm
      cases hv1
      unfold maxLen at hmax1
      have Hxk := Lib.hid hxk
      clear hxk
      go_wp2_with fail
      go_roundw
      case rel => exact ⟨k + 1, _, by omega, by rw [show ((k + 1 : Nat) : Int) = (k : Int) + 1 from by omega], rfl, by rw [enA_take zs k x Hxk.out, ← Hs.out, fab_fres, fab_fres, fab_wide, fab_wide], Nr.out.trans ⟨rfl, rfl, rfl, Nat.le_refl _, fun _ _ _ => rfl⟩⟩
      case measure => simp only [intOf]; omega
    · obtain rfl : k = n := by omega
      go_wp2_with fail
      go_ret
      exact ⟨s, rfl, by have h := Hs.out; rwa [List.take_of_length_le (by rw [Hl.out]; exact Nat.le_refl _)] at h, Nr.out⟩

theorem specEnergy_ok (zs : List Nat) (n b : Nat) (v : Value) (hl : zs.length = n) (hn : n ≤ 1048576) (w : World) (h : w.ownsRow b 25 1 v n (cellsS zs)) :
    Calls Try.prog 44 #[v] w (EnP zs w) := by
  obtain ⟨va, vc, rfl⟩ := own_shape' h
  have H := Lib.hid h
  have Hl := Lib.hid hl
  clear h hl
  go_enter Try.func44, Try.ntmps44
  go_wp2_with fail
  go_loopw [3, 8] (fun y i wr => EnI zs n w y i wr) (fun _ i _ => n - (intOf i).toNat)
  case atStart => exact ⟨0, 0, by omega, rfl, rfl, rfl, Nw.refl _⟩
  case round =>
    obtain ⟨k, s, hk, rfl, rfl, hs, hN⟩ := hrel
    have Hs := Lib.hid hs
    have Nr := Lib.hid hN
    clear hs hN
    by_cases hlt : k < n
    · obtain ⟨x, hxk⟩ : ∃ x, zs[k]? = some x := ⟨zs[k]'(by rw [Hl.out]; exact hlt), List.getElem?_eq_getElem _⟩
      obtain ⟨g1, cap1, hv1, hcap1, hmax1, -, e1⟩ := own_sample (own_nw H.out Nr.out) hxk Hl.out.symm
      cases hv1
      unfold maxLen at hmax1
      have Hxk := Lib.hid hxk
      clear hxk
      go_wp2_with fail
      go_roundw
      case rel => exact ⟨k + 1, _, by omega, by rw [show ((k + 1 : Nat) : Int) = (k : Int) + 1 from by omega], rfl, by rw [enA_take zs k x Hxk.out, ← Hs.out, fab_fres, fab_fres, fab_wide, fab_wide], Nr.out.trans ⟨rfl, rfl, rfl, Nat.le_refl _, fun _ _ _ => rfl⟩⟩
      case measure => simp only [intOf]; omega
    · obtain rfl : k = n := by omega
      go_wp2_with fail
      go_ret
      exact ⟨s, rfl, by have h := Hs.out; rwa [List.take_of_length_le (by rw [Hl.out]; exact Nat.le_refl _)] at h, Nr.out⟩

end Go.Proofs.Ytamboboncpjodaa

/- The walk of LoudestEar over valid rooms: the place whose ringing has the greatest energy, the first of these.
   Conditions: those that each statement names. -/
namespace Go.Proofs.Ytamboboncpjodaa
open Go Go.RowKit

/-! ### the energy of finite samples is a number -/
def enB : Rat := Flo.pw 260
theorem en_step (s x : Nat) (k : Nat) (hk : k ≤ 1000) (hs : Flo.Nm s) (hb : Flo.Ab (Flo.W s) ((k : Rat) * enB)) (hx : Sm x) :
    ∃ r, fA .add .f64 (some s) (fA .mul .f64 (wA x) (wA x)) = some r ∧ Flo.Nm r ∧ Flo.Ab (Flo.W r) (((k + 1 : Nat) : Rat) * enB) := by
  obtain ⟨n, v⟩ := wid_num hx
  have hwa : wA x = some (wid x) := by unfold wA; rw [sm_nan hx]; rfl
  have a := single_abs hx
  have hm := a.mul a
  have e256 : Flo.pw 128 * Flo.pw 128 = Flo.pw 256 := by rw [← Flo.pw_add]; rfl
  rw [e256, ← v] at hm
  have l1 : Flo.pw 256 < Flo.pw 1023 := Flo.pw_lt (by omega)
  have l2 : Flo.pw 260 = 16 * Flo.pw 256 := by rw [show (260 : Int) = 4 + 256 from rfl, Flo.pw_add, show Flo.pw 4 = 16 from Flo.pw_nat 4]
  have l3 : Flo.pw 280 < Flo.pw 1023 := Flo.pw_lt (by omega)
  have l4 : Flo.pw 280 = 1048576 * Flo.pw 260 := by rw [show (280 : Int) = 20 + 260 from rfl, Flo.pw_add, show Flo.pw 20 = 1048576 from Flo.pw_nat 20]
  have p0 : 1 ≤ Flo.pw 256 := by rw [← Flo.pw_zero]; exact Flo.pw_le (by omega)
  have u1 := Flo.u_le
  have u0 := Flo.u_pos
  have e0 := Flo.et_pos
  have eu : Flo.et ≤ Flo.u := Flo.pw_le (by omega)
  obtain ⟨r1, q1, q2, q3⟩ := Flo.d_mul (wid x) (wid x) n n _ hm l1
  have k0 : (0 : Rat) ≤ (k : Rat) := by exact_mod_cast Nat.zero_le k
  have k1 : (k : Rat) ≤ 1000 := by
    have : ((k : Nat) : Rat) ≤ ((1000 : Nat) : Rat) := by exact_mod_cast hk
    exact this
  have u2 : Flo.u ≤ 1 / 1048576 := by grind
  have hP := Rat.mul_le_mul_of_nonneg_left u2 (show (0 : Rat) ≤ Flo.pw 256 by grind)
  have hr1 : Flo.Ab (Flo.W r1) (2 * Flo.pw 256) := ((q3.add hm).eq (by grind)).mono (by grind)
  have hsum : Flo.Ab (Flo.W s + Flo.W r1) ((k : Rat) * enB + 2 * Flo.pw 256) := hb.add hr1
  have hkb : (k : Rat) * enB ≤ 1000 * enB := Rat.mul_le_mul_of_nonneg_right k1 (by unfold enB; grind)
  unfold enB at *
  obtain ⟨r2, t1, t2, t3⟩ := Flo.d_add s r1 hs q2 _ hsum (by grind)
  refine ⟨r2, ?_, t2, ?_⟩
  · rw [hwa]
    show fA .add .f64 (some s) (floatBits .mul .f64 (wid x) (wid x)) = _
    rw [q1]
    exact t1
  · have hB : 0 ≤ (k : Rat) * Flo.pw 260 + 2 * Flo.pw 256 := hsum.nonneg
    have hu := Rat.mul_le_mul_of_nonneg_left u2 hB
    have e1 : ((k + 1 : Nat) : Rat) = (k : Rat) + 1 := by push_cast; rfl
    rw [e1]
    refine ((t3.add hsum).eq (by grind)).mono ?_
    grind
theorem en_fold : ∀ (zs : List Nat) (s k : Nat), k + zs.length ≤ 1000 → Flo.Nm s → Flo.Ab (Flo.W s) ((k : Rat) * enB) → (∀ x ∈ zs, Sm x) → ∃ r, zs.foldl (fun s x => fA .add .f64 s (fA .mul .f64 (wA x) (wA x))) (some s) = some r ∧ Flo.Nm r
  | [], s, k, _, hs, _, _ => ⟨s, rfl, hs⟩
  | x :: zs, s, k, hk, hs, hb, hx => by
    simp only [List.length_cons] at hk
    obtain ⟨r, h1, h2, h3⟩ := en_step s x k (by omega) hs hb (hx x (List.mem_cons_self ..))
    rw [List.foldl_cons, h1]
    exact en_fold zs r (k + 1) (by omega) h2 h3 (fun y hy => hx y (List.mem_cons_of_mem _ hy))
theorem zero_double : Flo.Nm 0 ∧ Flo.W 0 = 0 := by
  have h : Ieee.double.read 0 = .number false 0 (-1074) := by decide
  refine ⟨⟨_, _, _, h⟩, ?_⟩
  rw [show Flo.W 0 = _ from Flo.V_eq h, Flo.val_zero]
/-- the energy's bits -/
def enN (zs : List Nat) : Nat := (enA zs).getD 0
theorem en_num (zs : List Nat) (hl : zs.length ≤ 1000) (hx : ∀ x ∈ zs, Sm x) : enA zs = some (enN zs) ∧ Flo.Nm (enN zs) := by
  have h0 : fab .f64 0 = some 0 := fab_some (by decide)
  obtain ⟨r, h1, h2⟩ := en_fold zs 0 0 (by omega) zero_double.1 (by rw [zero_double.2]; unfold enB; have := Flo.pw_pos 260; constructor <;> grind) hx
  have e : enA zs = some r := by unfold enA; rw [h0]; exact h1
  unfold enN
  rw [e]
  exact ⟨rfl, h2⟩
theorem fab_eq {k : FloatKind} {s r : Nat} (h : fab k s = some r) : s = r := by
  unfold fab at h
  split at h
  · cases h
  · injection h
/-- the walk: the energy's bits themselves -/
theorem implEnergy_num (zs : List Nat) (n b : Nat) (v : Value) (hl : zs.length = n) (hn : n ≤ 1000) (hx : ∀ x ∈ zs, Sm x) (w : World) (h : w.ownsRow b 25 1 v n (cellsS zs)) :
    Calls Try.prog 22 #[v] w fun e w' => e = .returned (.float .f64 (enN zs)) ∧ Nw w w' := by
  refine (implEnergy_ok zs n b v hl (by omega) w h).mono ?_
  rintro e w' ⟨s, rfl, hs, hn'⟩
  rw [(en_num zs (by omega) hx).1] at hs
  rw [fab_eq hs]
  exact ⟨rfl, hn'⟩

/-! ### the loudest place -/
/-- E best is the greatest of the first k, and the first such -/
def Arg (E : Nat → Rat) (k best : Nat) : Prop := best < k ∧ ∀ j, j < k → E j ≤ E best ∧ (j < best → E j < E best)
theorem Arg.first (E : Nat → Rat) : Arg E 1 0 := ⟨by omega, fun j hj => by
  have h0 : j = 0 := by omega
  rw [h0]
  exact ⟨Rat.le_refl, fun h => by omega⟩⟩
theorem Arg.more {E : Nat → Rat} {k best : Nat} (h : Arg E k best) (hg : E best < E k) : Arg E (k + 1) k :=
  ⟨by omega, fun j hj => by
    by_cases hk : j < k
    · have := (h.2 j hk).1
      exact ⟨by grind, fun _ => by grind⟩
    · obtain rfl : j = k := by omega
      exact ⟨Rat.le_refl, fun h => by omega⟩⟩
theorem Arg.stay {E : Nat → Rat} {k best : Nat} (h : Arg E k best) (hg : ¬ E best < E k) : Arg E (k + 1) best :=
  ⟨by have := h.1; omega, fun j hj => by
    by_cases hk : j < k
    · exact h.2 j hk
    · obtain rfl : j = k := by omega
      exact ⟨by grind, fun h2 => by have := h.1; omega⟩⟩
theorem gt_iff {a b : Nat} (ha : Flo.Nm a) (hb : Flo.Nm b) : (FloatKind.f64.format.order a b == some .gt) = decide (Flo.W b < Flo.W a) := by
  have o := Flo.order_num Ieee.double a b ha hb
  rw [show FloatKind.f64.format = Ieee.double from rfl]
  by_cases h : Flo.W b < Flo.W a
  · rw [o.2.2.2 h]; simp [h]
  · have : ¬ Ieee.double.order a b = some .gt := fun e => h (o.2.2.1 e)
    simp [h, this]

/-- what a place's ringing is -/
def earS (ms : List M4) (rows : List (List Nat)) (s n : Nat) (xs : List Nat) (j : Nat) : List Nat := ringS (weighL ms (mulW (rows.getD s []) (rows.getD j []))) (inputOf xs) n
def earE (ms : List M4) (rows : List (List Nat)) (s n : Nat) (xs : List Nat) (j : Nat) : Nat := enN (earS ms rows s n xs j)
def topB (k z : Nat) : Nat := if k = 0 then 0 else z
theorem topB_pos {k z : Nat} (h : ¬ k = 0) : topB k z = z := by unfold topB; rw [if_neg h]
def LoudI (ms : List M4) (rows : List (List Nat)) (s n P : Nat) (xs : List Nat) (w : World) (best great i : Value) (wr : World) : Prop :=
  ∃ k bst : Nat, k ≤ P ∧ i = .int .i64 (k : Int) ∧ best = .int .i64 (bst : Int) ∧ great = .float .f64 (topB k (earE ms rows s n xs bst)) ∧ (k = 0 ∧ bst = 0 ∨ Arg (fun j => Flo.W (earE ms rows s n xs j)) k bst) ∧ Nw w wr
def LoudP (ms : List M4) (rows : List (List Nat)) (s n P : Nat) (xs : List Nat) (w : World) (e : Ending) (w' : World) : Prop :=
  ∃ bst : Nat, e = .returned (.tuple #[.int .i64 (bst : Int), .bool true]) ∧ Arg (fun j => Flo.W (earE ms rows s n xs j)) P bst ∧ Nw w w'

set_option maxRecDepth 100000 in
set_option maxHeartbeats 1600000 in
theorem loudestEar_ok (ms : List M4) (rows : List (List Nat)) (q P b bs s p n bi : Nat) (xs : List Nat) (mv sv iv : Value) (w : World) (h : RoomV ms rows q P b bs mv sv w) (hs : s < P)
    (hp : xs.length = p) (hxl : p ≤ 1048576) (hn : n ≤ 1000) (hi : w.ownsRow bi 25 1 iv p (cellsS xs)) (hok : ∀ j, j < P → RingOk (weighL ms (mulW (rows.getD s []) (rows.getD j []))) (inputOf xs) n ∧ ∀ x ∈ earS ms rows s n xs j, Sm x) :
    Calls Try.prog 20 #[.agg #[mv, sv], .int .i64 (s : Int), iv, .int .i64 (n : Int)] w (LoudP ms rows s n P xs w) := by
  obtain ⟨ma, mc, rfl⟩ := own_shape' h.om
  obtain ⟨sa, sc, rfl⟩ := h.rs.shape
  obtain ⟨ia, ic, rfl⟩ := own_shape' hi
  have ee := h.hP
  have hP16 := h.hP16
  have hn2 : n ≤ 2000 := by omega
  rw [ee] at h ⊢
  have N0 := Lib.hid ((Nw.refl w).alloc (.cells #[.slice ma q mc, .slice sa P sc] 41 (0, 0)))
  have B0 := Lib.hid (Has2.new w 41 (.slice ma q mc) (.slice sa P sc))
  have H := Lib.hid h
  have I0 := Lib.hid hi
  have Hok := Lib.hid hok
  have Hp := Lib.hid hp
  have E := Lib.hid ee
  have Gt := Lib.hid (fun j (hj : j < P) => (en_num (earS ms rows s n xs j) (by unfold earS ringS; simp; omega) (hok j hj).2).2)
  clear h hi hok hp ee
  go_enter Try.func20, Try.ntmps20
  obtain ⟨b0, b1, b2, b3, b4⟩ := B0.out
  go_wp2_with fail
  generalize w.alloc (.cells #[.slice ma q mc, .slice sa P sc] 41 (0, 0)) = w0 at *
  go_loopw [10, 11, 19] (fun best great i wr => LoudI ms rows s n P xs w best great i wr ∧ Nw w0 wr) (fun _ _ i _ => P - (intOf i).toNat)
  case atStart => exact ⟨⟨0, 0, by omega, rfl, rfl, rfl, .inl ⟨rfl, rfl⟩, N0.out⟩, Nw.refl _⟩
  case round =>
    obtain ⟨⟨k, bst, hk, rfl, rfl, rfl, harg, hnw⟩, hn0⟩ := hrel
    have Nr := Lib.hid (And.intro hnw hn0)
    have Ha := Lib.hid harg
    clear hnw hn0 harg b0 b1 b2 b3 b4
    have B1 := Lib.hid (B0.out.nw Nr.out.2)
    obtain ⟨b0, b1, b2, b3, b4⟩ := B1.out
    by_cases hlt : k < P
    · have hrs : rows[s]? = some (rows.getD s []) := by rw [List.getD_eq_getElem?_getD, List.getElem?_eq_getElem (by rw [E.out]; exact hs)]; rfl
      have hrk : rows[k]? = some (rows.getD k []) := by rw [List.getD_eq_getElem?_getD, List.getElem?_eq_getElem (by rw [E.out]; exact hlt)]; rfl
      have Hrs := Lib.hid (And.intro hrs hrk)
      clear hrs hrk
      go_wp2_with fail
      have g1 := H.out.nw Nr.out.1
      have g2 := own_nw I0.out Nr.out.1
      have g3 := (Hok.out k hlt).1
      have hr := ringRoom_ok ms rows q P b bs s k p n bi (rows.getD s []) (rows.getD k []) xs _ _ _ _ g1 Hrs.out.1 Hrs.out.2 Hp.out hxl hn2 g2 g3
      refine hr.mono ?_
      rintro e w2 ⟨g, rfl, own2, n2⟩
      have O2 := Lib.hid own2
      have N2 := Lib.hid (And.intro (Nr.out.1.trans n2) (Nr.out.2.trans n2))
      clear own2 n2
      go_wp2_with fail
      refine (implEnergy_num (earS ms rows s n xs k) n _ _ (by unfold earS ringS; simp) hn (Hok.out k hlt).2 _ O2.out).mono ?_
      rintro e w3 ⟨rfl, n3⟩
      have N3 := Lib.hid (And.intro (N2.out.1.trans n3) (N2.out.2.trans n3))
      clear n3
      rw [show enN (earS ms rows s n xs k) = earE ms rows s n xs k from rfl]
      rcases Ha.out with ⟨rfl, rfl⟩ | hA
      · go_wp2_with fail
        go_roundw
        case rel => exact ⟨⟨1, 0, by omega, rfl, rfl, rfl, .inr (Arg.first _), N3.out.1⟩, N3.out.2⟩
        case measure => simp only [intOf]; omega
      · have hk0 : ¬ k = 0 := by have := hA.1; omega
        have hkI : ¬ ((k : Int) = 0) := by omega
        have hgt := gt_iff (Gt.out k hlt) (Gt.out bst (by have := hA.1; omega))
        rw [show enN (earS ms rows s n xs k) = earE ms rows s n xs k from rfl, show enN (earS ms rows s n xs bst) = earE ms rows s n xs bst from rfl] at hgt
        rw [topB_pos hk0]
        by_cases hgE : Flo.W (earE ms rows s n xs bst) < Flo.W (earE ms rows s n xs k)
        · rw [decide_eq_true hgE] at hgt
          have hA2 := Lib.hid (hA.more (E := fun j => Flo.W (earE ms rows s n xs j)) hgE)
          go_wp2_with fail
          go_roundw
          case rel => exact ⟨⟨k + 1, k, by omega, by rw [show ((k + 1 : Nat) : Int) = (k : Int) + 1 from by omega], rfl, by rw [topB_pos (by omega)], .inr hA2.out, N3.out.1⟩, N3.out.2⟩
          case measure => simp only [intOf]; omega
        · rw [decide_eq_false hgE] at hgt
          have hA2 := Lib.hid (hA.stay (E := fun j => Flo.W (earE ms rows s n xs j)) hgE)
          go_wp2_with fail
          go_roundw
          case rel => exact ⟨⟨k + 1, bst, by omega, by rw [show ((k + 1 : Nat) : Int) = (k : Int) + 1 from by omega], rfl, by rw [topB_pos (by omega)], .inr hA2.out, N3.out.1⟩, N3.out.2⟩
          case measure => simp only [intOf]; omega
    · obtain rfl : k = P := by omega
      have hA : Arg (fun j => Flo.W (earE ms rows s n xs j)) k bst := by
        rcases Ha.out with ⟨h, _⟩ | h
        · omega
        · exact h
      have HA := Lib.hid hA
      clear hA
      go_wp2_with fail
      have hs0 : (0 : Int) < k := by omega
      go_quiet (fail)
      go_wp2_with fail
      go_ret2
      exact ⟨bst, by simp; omega, HA.out, Nr.out.1.draw _⟩

set_option maxRecDepth 100000 in
/-- .. and where the source is no place -/
theorem loudestEar_no (ms : List M4) (rows : List (List Nat)) (q b bs s : Nat) (mv sv iv nv : Value) (w : World) (h : RoomV ms rows q s b bs mv sv w) :
    Calls Try.prog 20 #[.agg #[mv, sv], .int .i64 (s : Int), iv, nv] w fun e w' => e = .returned (.tuple #[.int .i64 0, .bool false]) ∧ Nw w w' := by
  obtain ⟨ma, mc, rfl⟩ := own_shape' h.om
  obtain ⟨sa, sc, rfl⟩ := h.rs.shape
  have ee := h.hP
  have hs16 := h.hP16
  rw [ee] at h ⊢
  have N0 := Lib.hid ((Nw.refl w).alloc (.cells #[.slice ma q mc, .slice sa s sc] 41 (0, 0)))
  have B0 := Lib.hid (Has2.new w 41 (.slice ma q mc) (.slice sa s sc))
  have H := Lib.hid h
  clear h ee
  by_cases hP : s = 0
  · subst hP
    go_enter Try.func20, Try.ntmps20
    obtain ⟨b0, b1, b2, b3, b4⟩ := B0.out
    go_wp2_with fail
    go_loopw [10, 19] (fun l i wr => l = .int .i64 0 ∧ i = .int .i64 0 ∧ wr = w.alloc (.cells #[.slice ma q mc, .slice sa 0 sc] 41 (0, 0))) (fun _ i _ => 0)
    case atStart => exact ⟨rfl, rfl, rfl⟩
    case round =>
      obtain ⟨rfl, rfl, rfl⟩ := hrel
      go_wp2_with fail
      go_quiet (fail)
      go_wp2_with fail
      go_ret2
      exact ⟨rfl, N0.out.draw _⟩
  · have hPi : (0 : Int) < s := by omega
    go_enter Try.func20, Try.ntmps20
    obtain ⟨b0, b1, b2, b3, b4⟩ := B0.out
    go_wp2_with fail
    go_loopw [10, 19] (fun l i wr => l = .int .i64 0 ∧ i = .int .i64 0 ∧ wr = w.alloc (.cells #[.slice ma q mc, .slice sa s sc] 41 (0, 0))) (fun _ i _ => 0)
    case atStart => exact ⟨rfl, rfl, rfl⟩
    case round =>
      obtain ⟨rfl, rfl, rfl⟩ := hrel
      go_wp2_with fail
      have hr := ringRoom_no ms rows q s b bs s 0 _ _ iv nv _ (H.out.nw N0.out) (by omega) (by omega)
      rw [show (((0 : Nat) : Int)) = 0 from rfl] at hr
      refine hr.mono ?_
      rintro e w2 ⟨rfl, n2⟩
      have N2 := Lib.hid (N0.out.trans n2)
      clear n2
      go_wp2_with fail
      go_ret2
      exact ⟨rfl, N2.out⟩
end Go.Proofs.Ytamboboncpjodaa

/- The walks of the model's IsRoom, and of its LoudestEar where the source is no place; of the laws' own bytes.
   Conditions: those that each statement names. -/
namespace Go.Proofs.Ytamboboncpjodaa
open Go Go.RowKit

theorem sixteen_d : Flo.Nm 4625196817309499392 ∧ Flo.W 4625196817309499392 = 16 := by
  have h : Ieee.double.read 4625196817309499392 = .number false 4503599627370496 (-48) := by decide
  refine ⟨⟨_, _, _, h⟩, ?_⟩
  rw [show Flo.W 4625196817309499392 = _ from Flo.V_eq h]
  unfold Flo.val
  have := Flo.pw_neg_mul 48
  rw [show Flo.pw 48 = 281474976710656 from Flo.pw_nat 48] at this
  simp only [Bool.false_eq_true, if_false]
  have e2 : ((4503599627370496 : Nat) : Rat) = 4503599627370496 := rfl
  rw [e2]; grind
theorem wt_leB (x : Nat) (hx : Wt x) : (FloatKind.f64.format.order (labs (wid x)) 4625196817309499392 == some .lt || FloatKind.f64.format.order (labs (wid x)) 4625196817309499392 == some .eq) = true := by
  obtain ⟨n, v⟩ := wid_num hx.1
  obtain ⟨l, lv⟩ := labs_num _ (wid_lt x) n
  have := (leB_iff l sixteen_d.1).2 (by rw [lv, v, sixteen_d.2]; have := ra_one hx.2; grind)
  exact this

def RowJ (q : Nat) (w1 : World) (i : Value) (wr : World) : Prop := ∃ k : Nat, k ≤ q ∧ i = .int .i64 (k : Int) ∧ Nw w1 wr

set_option maxRecDepth 100000 in
set_option maxHeartbeats 1600000 in
theorem specIsRoom_ok (ms : List M4) (rows : List (List Nat)) (q P b bs : Nat) (mv sv : Value) (w : World) (h : RoomV ms rows q P b bs mv sv w) :
    Calls Try.prog 72 #[.agg #[mv, sv]] w (TestP true w) := by
  obtain ⟨ma, mc, rfl⟩ := own_shape' h.om
  obtain ⟨sa, sc, rfl⟩ := h.rs.shape
  have hP16 := h.hP16
  have e := h.hP
  rw [e] at h ⊢
  have N0 := Lib.hid ((Nw.refl w).alloc (.cells #[.slice ma q mc, .slice sa P sc] 41 (0, 0)))
  have B0 := Lib.hid (Has2.new w 41 (.slice ma q mc) (.slice sa P sc))
  have H := Lib.hid h
  have E := Lib.hid e
  have hq16 := h.hq16
  have hb : bodyB ms = true := (bodyB_iff ms).2 ⟨by rw [h.hq]; exact h.hq16, h.ok⟩
  clear h e
  go_enter Try.func72, Try.ntmps72
  obtain ⟨b0, b1, b2, b3, b4⟩ := B0.out
  go_wp2_with fail
  refine (specModes_fin ms q b _ H.out.hq (by omega) _ (own_nw H.out.om N0.out)).mono ?_
  rw [hb]
  rintro e w1 ⟨rfl, n1⟩
  have B1 := Lib.hid (B0.out.nw n1)
  have N1 := Lib.hid (N0.out.trans n1)
  clear n1 b0 b1 b2 b3 b4
  obtain ⟨b0, b1, b2, b3, b4⟩ := B1.out
  go_wp2_with fail
  go_loopw [20] (fun i wr => ValI P w i wr ∧ Nw w1 wr) (fun i _ => P - (intOf i).toNat)
  case atStart => exact ⟨⟨0, by omega, rfl, N1.out⟩, Nw.refl _⟩
  case round =>
    obtain ⟨⟨k, hk, rfl, hnw⟩, hn1⟩ := hrel
    obtain ⟨wo, hwo⟩ : ∃ wo, wo = wr := ⟨_, rfl⟩
    subst hwo
    have Nr := Lib.hid (And.intro hnw hn1)
    clear hnw hn1 b0 b1 b2 b3 b4
    by_cases hlt : k < P
    · obtain ⟨r, hr⟩ : ∃ r, rows[k]? = some r := ⟨rows[k]'(by rw [E.out]; exact hlt), List.getElem?_eq_getElem _⟩
      obtain ⟨g, cap, ra, rc, hv, hcap, hmax, hgs, e1, own⟩ := (H.out.rs.nw Nr.out.1).at E.out.symm hr
      cases hv
      have Hl := Lib.hid (H.out.rs.lens r (List.mem_of_getElem? hr))
      have Hw := Lib.hid (H.out.wt r (List.mem_of_getElem? hr))
      have Ow := Lib.hid own
      have B2 := Lib.hid (B1.out.nw Nr.out.2)
      obtain ⟨b0, b1, b2, b3, b4⟩ := B2.out
      unfold maxLen at hmax
      clear hr own
      go_wp2_with fail
      go_loopw [32] (fun i wx => RowJ q wo i wx) (fun i _ => q - (intOf i).toNat)
      case atStart => exact ⟨0, by omega, rfl, Nw.refl _⟩
      case round =>
        obtain ⟨j, hj, rfl, hnj⟩ := hrel
        have Nj := Lib.hid hnj
        clear hnj
        by_cases hlj : j < q
        · obtain ⟨x, hxk⟩ : ∃ x, r[j]? = some x := ⟨r[j]'(by rw [Hl.out]; exact hlj), List.getElem?_eq_getElem _⟩
          obtain ⟨g1, cap1, hv1, hcap1, hmax1, -, e2⟩ := own_sample (own_nw Ow.out Nj.out) hxk Hl.out.symm
          cases hv1
          have hw := Hw.out x (List.mem_of_getElem? hxk)
          have a1 := fcv_up hw.1
          have a2 := fcd_up hw.1
          have a3 := wt_leB x hw
          unfold maxLen at hmax1
          clear hxk hw
          go_wp2_with fail
          refine (l1Abs_any _ _).mono ?_
          rintro e w' ⟨rfl, rfl⟩
          go_wp2_with fail
          go_roundw
          case rel => exact ⟨j + 1, by omega, by rw [show ((j + 1 : Nat) : Int) = (j : Int) + 1 from by omega], Nj.out⟩
          case measure => simp only [intOf]; omega
        · go_wp2_with fail
          go_roundw
          case rel => exact ⟨⟨k + 1, by omega, by rw [show ((k + 1 : Nat) : Int) = (k : Int) + 1 from by omega], Nr.out.1.trans Nj.out⟩, Nr.out.2.trans Nj.out⟩
          case measure => simp only [intOf]; omega
    · go_wp2_with fail
      go_ret
      exact ⟨rfl, Nr.out.1⟩

theorem l4Place_ok (mv : Value) (sa : Option Addr) (P sc p : Nat) (hP : P ≤ 64) (hp : p ≤ 64) (w : World) :
    Calls Try.prog 73 #[.agg #[mv, .slice sa P sc], .int .i64 (p : Int)] w (TestP (decide (p < P)) w) := by
  have N0 := Lib.hid ((Nw.refl w).alloc (.cells #[mv, .slice sa P sc] 41 (0, 0)))
  have B0 := Lib.hid (Has2.new w 41 mv (.slice sa P sc))
  go_enter Try.func73, Try.ntmps73
  obtain ⟨b0, b1, b2, b3, b4⟩ := B0.out
  go_wp2_with fail
  go_ret
  exact ⟨by simp, N0.out⟩

theorem specRoomBody_no (ms : List M4) (rows : List (List Nat)) (q P b bs s t : Nat) (mv sv : Value) (w : World) (h : RoomV ms rows q P b bs mv sv w) (hs : s ≤ 64) (hsP : ¬ s < P) :
    Calls Try.prog 57 #[.agg #[mv, sv], .int .i64 (s : Int), .int .i64 (t : Int)] w fun e w' => e = .returned (.tuple #[.agg #[.slice none 0 0], .bool false]) ∧ Nw w w' := by
  obtain ⟨ma, mc, rfl⟩ := own_shape' h.om
  obtain ⟨sa, sc, rfl⟩ := h.rs.shape
  have hP16 := h.hP16
  have ee := h.hP
  rw [ee] at h ⊢
  have N0 := Lib.hid (((Nw.refl w).alloc (.cells #[.slice ma q mc, .slice sa P sc] 41 (0, 0))).alloc (.cells #[.slice none 0 0] 30 (0, 0)))
  have B0 := Lib.hid ((Has2.new w 41 (.slice ma q mc) (.slice sa P sc)).alloc (.cells #[.slice none 0 0] 30 (0, 0)))
  have D0 := Lib.hid (Has1.new (w.alloc (.cells #[.slice ma q mc, .slice sa P sc] 41 (0, 0))) 30 (.slice none 0 0))
  rw [show (w.alloc (.cells #[.slice ma q mc, .slice sa P sc] 41 (0, 0))).heap.size = w.heap.size + 1 from by simp] at D0
  have H := Lib.hid h
  have ds : decide (s < P) = false := by simp [hsP]
  clear h ee
  go_enter Try.func57, Try.ntmps57
  obtain ⟨b0, b1, b2, b3, b4⟩ := B0.out
  go_wp2_with fail
  refine (specIsRoom_ok ms rows q P b bs _ _ _ (H.out.nw N0.out)).mono ?_
  rintro e w1 ⟨rfl, n1⟩
  have B1 := Lib.hid (B0.out.nw n1)
  have D1 := Lib.hid (D0.out.nw n1)
  have N1 := Lib.hid (N0.out.trans n1)
  clear n1 b0 b1 b2 b3 b4
  obtain ⟨b0, b1, b2, b3, b4⟩ := B1.out
  go_wp2_with fail
  refine (l4Place_ok _ sa P sc s (by omega) (by omega) _).mono ?_
  rw [ds]
  rintro e w2 ⟨rfl, n2⟩
  have D2 := Lib.hid (D1.out.nw n2)
  have N2 := Lib.hid (N1.out.trans n2)
  clear n2 b0 b1 b2 b3 b4
  obtain ⟨d0, d1, d2⟩ := D2.out
  go_wp2_with fail
  exact bodyPost_ret (v := .tuple #[.agg #[.slice none 0 0], .bool false]) (by simp [results, Try.results57, go_sem, d0, d1, d2]) rfl ⟨rfl, N2.out.set (by show w.heap.size ≤ w.heap.size + 1; omega) _⟩

theorem specRingRoom_no (ms : List M4) (rows : List (List Nat)) (q P b bs s t : Nat) (mv sv iv nv : Value) (w : World) (h : RoomV ms rows q P b bs mv sv w) (hs : s ≤ 64) (hsP : ¬ s < P) :
    Calls Try.prog 43 #[.agg #[mv, sv], .int .i64 (s : Int), .int .i64 (t : Int), iv, nv] w fun e w' => e = .returned (.tuple #[.slice none 0 0, .bool false]) ∧ Nw w w' := by
  obtain ⟨ma, mc, rfl⟩ := own_shape' h.om
  obtain ⟨sa, sc, rfl⟩ := h.rs.shape
  have ee := h.hP
  rw [ee] at h ⊢
  have N0 := Lib.hid ((Nw.refl w).alloc (.cells #[.slice ma q mc, .slice sa P sc] 41 (0, 0)))
  have B0 := Lib.hid (Has2.new w 41 (.slice ma q mc) (.slice sa P sc))
  have H := Lib.hid (h.nw N0.out)
  clear h ee
  go_enter Try.func43, Try.ntmps43
  obtain ⟨b0, b1, b2, b3, b4⟩ := B0.out
  go_wp2_with fail
  refine (specRoomBody_no ms rows q P b bs s t _ _ _ H.out hs hsP).mono ?_
  rintro e w1 ⟨rfl, n1⟩
  have N1 := Lib.hid ((N0.out.trans n1).alloc (.cells #[.slice none 0 0] 30 (0, 0)))
  clear n1
  go_wp2_with fail
  go_ret2
  exact ⟨rfl, N1.out⟩

set_option maxRecDepth 100000 in
theorem specLoudest_no (ms : List M4) (rows : List (List Nat)) (q b bs s : Nat) (mv sv iv nv : Value) (w : World) (h : RoomV ms rows q s b bs mv sv w) :
    Calls Try.prog 21 #[.agg #[mv, sv], .int .i64 (s : Int), iv, nv] w fun e w' => e = .returned (.tuple #[.int .i64 0, .bool false]) ∧ Nw w w' := by
  obtain ⟨ma, mc, rfl⟩ := own_shape' h.om
  obtain ⟨sa, sc, rfl⟩ := h.rs.shape
  have ee := h.hP
  have hs16 := h.hP16
  rw [ee] at h ⊢
  have N0 := Lib.hid ((Nw.refl w).alloc (.cells #[.slice ma q mc, .slice sa s sc] 41 (0, 0)))
  have B0 := Lib.hid (Has2.new w 41 (.slice ma q mc) (.slice sa s sc))
  have H := Lib.hid h
  clear h ee
  by_cases hP : s = 0
  · subst hP
    go_enter Try.func21, Try.ntmps21
    obtain ⟨b0, b1, b2, b3, b4⟩ := B0.out
    go_wp2_with fail
    go_loopw [10, 19] (fun l i wr => l = .int .i64 0 ∧ i = .int .i64 0 ∧ wr = w.alloc (.cells #[.slice ma q mc, .slice sa 0 sc] 41 (0, 0))) (fun _ i _ => 0)
    case atStart => exact ⟨rfl, rfl, rfl⟩
    case round =>
      obtain ⟨rfl, rfl, rfl⟩ := hrel
      go_wp2_with fail
      go_quiet (fail)
      go_wp2_with fail
      go_ret2
      exact ⟨rfl, N0.out.draw _⟩
  · have hPi : (0 : Int) < s := by omega
    go_enter Try.func21, Try.ntmps21
    obtain ⟨b0, b1, b2, b3, b4⟩ := B0.out
    go_wp2_with fail
    go_loopw [10, 19] (fun l i wr => l = .int .i64 0 ∧ i = .int .i64 0 ∧ wr = w.alloc (.cells #[.slice ma q mc, .slice sa s sc] 41 (0, 0))) (fun _ i _ => 0)
    case atStart => exact ⟨rfl, rfl, rfl⟩
    case round =>
      obtain ⟨rfl, rfl, rfl⟩ := hrel
      go_wp2_with fail
      have hr := specRingRoom_no ms rows q s b bs s 0 _ _ iv nv _ (H.out.nw N0.out) (by omega) (by omega)
      rw [show (((0 : Nat) : Int)) = 0 from rfl] at hr
      refine hr.mono ?_
      rintro e w2 ⟨rfl, n2⟩
      have N2 := Lib.hid (N0.out.trans n2)
      clear n2
      go_wp2_with fail
      go_ret2
      exact ⟨rfl, N2.out⟩

/-! ### the laws' own bytes, once more -/
theorem at_fix (a : Option Addr) (len cap i : Nat) (hl : len ≤ 1048576) (hi : i ≤ 100) (w : World) (hb : Bys w.heap.size a len w) :
    ∃ z : Nat, z ≤ 255 ∧ Calls Try.prog 7 #[.slice a len cap, .int .i64 (i : Int)] w fun e w' => e = .returned (.int .i64 (z : Int)) ∧ w' = w := by
  by_cases hlt : i < len
  · rcases hb.2 with h00 | ⟨blk, off, rfl, hblk, hcell⟩
    · omega
    · obtain ⟨x, hx, hcx⟩ := hcell i hlt
      clear hcell hb
      refine ⟨x, hx, ?_⟩
      go_enter Try.func7, Try.ntmps7
      go_wp2
      go_ret
      exact ⟨rfl, rfl⟩
  · clear hb
    refine ⟨(i * 37 + len * 11) % 256, by omega, ?_⟩
    go_enter Try.func7, Try.ntmps7
    go_wp2
    go_ret
    exact ⟨ret_int' (show ((i : Int) * 37 + len * 11) % 256 = (((i * 37 + len * 11) % 256 : Nat) : Int) by omega), rfl⟩
end Go.Proofs.Ytamboboncpjodaa
