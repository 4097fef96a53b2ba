/- Absolute values of single precision, by way of double precision: numbers of both precisions that stand for the same number, or infinity, that is not negative.
   Conditions: those that each statement names. -/
import Derived.Test.YtjmignhcfmdcaaaDoorWide
namespace Go.Proofs.YtjmignhcfmdcaaaDoor
set_option linter.unusedSimpArgs false
set_option linter.unusedVariables false
open Go Go.RowKit

namespace Flo
open Ieee
/-- A number that the format has is written as it is: also the greatest ones. -/
theorem write_exact_top (f : Format) (he : 2 ≤ f.exponentBits) (s : Bool) (m : Nat) (p : Int) (k : Nat) (e : Int) (hk : (m : Rat) * pw p = (k : Rat) * pw e) (hk1 : k < 2 ^ (f.fractionBits + 1)) (hp : f.leastPlace ≤ e) (hB : e ≤ f.leastPlace + ((2 ^ f.exponentBits : Nat) - 3)) :
    ∃ m' p', f.read (f.write (.number s m p)) = .number s m' p' ∧ (m' : Rat) * pw p' = (m : Rat) * pw p := by
  have hw : f.write (.number s m p) = f.nearest s m p := rfl
  rw [hw]
  by_cases h : m = 0
  · subst h
    have : f.nearest s 0 p = f.word s 0 := by unfold Format.nearest; simp
    rw [this, zero_read]
    exact ⟨_, _, rfl, by simp⟩
  · obtain ⟨n1, n2⟩ := kept_near f s m p
    have hk0 : k ≠ 0 := by
      intro hk0; subst hk0
      have := (size_pw m p h).1
      have := pw_pos (p + m.log2)
      simp at hk
      grind
    have hlast : lastOf f m p ≤ e := by
      have a1 := (size_pw m p h).1
      have a2 := (size_pw k e hk0).2
      rw [← hk] at a2
      have a3 := lt_of_pw_lt (a := p + m.log2) (b := e + k.log2 + 1) (by grind)
      have a4 : k.log2 < f.fractionBits + 1 := by
        rw [Nat.log2_lt hk0]; exact hk1
      unfold lastOf; omega
    have hex : (keptOf f s m p : Rat) * pw (lastOf f m p) = (m : Rat) * pw p := by
      obtain ⟨d, hd⟩ := Int.le.dest hlast
      rw [hk, ← hd, Int.add_comm, pw_add, pw_nat] at n1 n2
      rw [hk, ← hd, Int.add_comm, pw_add, pw_nat]
      have hp := pw_pos (lastOf f m p)
      have q1 : keptOf f s m p ≤ k * 2 ^ d := le_nat_of _ _ (lastOf f m p) (by push_cast; grind)
      have q2 : k * 2 ^ d ≤ keptOf f s m p := le_nat_of _ _ (lastOf f m p) (by push_cast; grind)
      have q3 : keptOf f s m p = k * 2 ^ d := by omega
      rw [q3]; push_cast; grind
    have hkl : keptOf f s m p < 2 ^ (f.fractionBits + 1) := by
      rcases Nat.lt_or_ge (keptOf f s m p) (2 ^ (f.fractionBits + 1)) with h1 | h1
      · exact h1
      · exfalso
        have h2 : ((2 ^ (f.fractionBits + 1) : Nat) : Rat) ≤ (keptOf f s m p : Rat) := by exact_mod_cast h1
        rw [← pw_nat] at h2
        have h3 := Rat.mul_le_mul_of_nonneg_right h2 (Rat.le_of_lt (pw_pos (lastOf f m p)))
        rw [← pw_add, hex] at h3
        have h4 := (size_pw m p h).2
        have h5 : pw (p + m.log2 + 1) ≤ pw (((f.fractionBits + 1 : Nat) : Int) + lastOf f m p) := pw_le (by unfold lastOf; omega)
        grind
    have hr : rungOf f s m p < f.infRung := by
      have h4 : 4 ≤ 2 ^ f.exponentBits := by
        have := Nat.pow_le_pow_right (n := 2) (by omega) he
        simpa using this
      unfold rungOf Format.infRung
      have hb1 : 2 ^ (f.fractionBits + 1) = 2 * f.binade := by rw [Nat.pow_succ, Nat.mul_comm]; rfl
      have h5 : (lastOf f m p - f.leastPlace).toNat ≤ 2 ^ f.exponentBits - 3 := by omega
      have h6 := Nat.mul_le_mul_right f.binade h5
      have h7 : (2 ^ f.exponentBits - 1) * f.binade = (2 ^ f.exponentBits - 3) * f.binade + 2 * f.binade := by rw [← Nat.add_mul]; congr 1; omega
      have := bin_pos f
      omega
    obtain ⟨m', p', h1, h2, h3, h4⟩ := read_nearest f s m p h hr
    exact ⟨m', p', h1, by rw [h2]; exact hex⟩
end Flo

/-- p (single) and b (double) stand for one number or infinity, neither with a sign -/
def Tw (p b : Nat) : Prop :=
  (∃ m i n j, Ieee.single.read p = .number false m i ∧ Ieee.double.read b = .number false n j ∧ (m : Rat) * Flo.pw i = (n : Rat) * Flo.pw j) ∨
  (Ieee.single.read p = .infinity false ∧ Ieee.double.read b = .infinity false)
theorem Tw.nan {p b : Nat} (h : Tw p b) : nan32 p = false ∧ nan64 b = false := by
  unfold nan32 nan64
  rcases h with ⟨m, i, n, j, h1, h2, -⟩ | ⟨h1, h2⟩
  · rw [show FloatKind.f32.decode p = _ from h1, show FloatKind.f64.decode b = _ from h2]; exact ⟨rfl, rfl⟩
  · rw [show FloatKind.f32.decode p = _ from h1, show FloatKind.f64.decode b = _ from h2]; exact ⟨rfl, rfl⟩
theorem tw_zero : Tw 0 0 := .inl ⟨0, -149, 0, -1074, by decide, by decide, by simp⟩

theorem order_val {f g : Ieee.Format} {a b c d : Nat} (ha : Flo.IsNum f a) (hb : Flo.IsNum f b) (hc : Flo.IsNum g c) (hd : Flo.IsNum g d) (h1 : Flo.V f a = Flo.V g c) (h2 : Flo.V f b = Flo.V g d) : f.order a b = g.order c d := by
  have o := Flo.order_num f a b ha hb
  have O := Flo.order_num g c d hc hd
  rw [← h1, ← h2] at O
  have hs : ∃ r, f.order a b = some r := by
    obtain ⟨s, m, i, ha⟩ := ha
    obtain ⟨t, n, j, hb⟩ := hb
    unfold Ieee.Format.order; rw [ha, hb]; exact ⟨_, rfl⟩
  obtain ⟨r, hr⟩ := hs
  rw [hr]
  cases r
  · exact (O.1.2 (o.1.1 hr)).symm
  · exact (O.2.1.2 (o.2.1.1 hr)).symm
  · exact (O.2.2.2 (o.2.2.1 hr)).symm

theorem Tw.order {p b q c : Nat} (h : Tw p b) (k : Tw q c) : Ieee.double.order b c = Ieee.single.order p q := by
  rcases h with ⟨m, i, n, j, h1, h2, h3⟩ | ⟨h1, h2⟩
  · rcases k with ⟨m', i', n', j', k1, k2, k3⟩ | ⟨k1, k2⟩
    · refine order_val ⟨_, _, _, h2⟩ ⟨_, _, _, k2⟩ ⟨_, _, _, h1⟩ ⟨_, _, _, k1⟩ ?_ ?_
      · rw [Flo.V_eq h1, Flo.V_eq h2]; unfold Flo.val; simp only [Bool.false_eq_true, if_false]; rw [h3]
      · rw [Flo.V_eq k1, Flo.V_eq k2]; unfold Flo.val; simp only [Bool.false_eq_true, if_false]; rw [k3]
    · unfold Ieee.Format.order; rw [h1, h2, k1, k2]; try rfl
  · rcases k with ⟨m', i', n', j', k1, k2, k3⟩ | ⟨k1, k2⟩
    · unfold Ieee.Format.order; rw [h1, h2, k1, k2]; try rfl
    · unfold Ieee.Format.order; rw [h1, h2, k1, k2]; try rfl

/-- against a widened number -/
theorem Tw.order_wid {p b g : Nat} (h : Tw p b) (hg : nan32 g = false) : Ieee.double.order b (wid g) = Ieee.single.order p g := by
  cases hd : Ieee.single.read g with
  | nan s f => unfold nan32 at hg; rw [show FloatKind.f32.decode g = _ from hd] at hg; cases hg
  | infinity s =>
    have k := wid_inf hd
    rcases h with ⟨m, i, n, j, h1, h2, h3⟩ | ⟨h1, h2⟩
    · unfold Ieee.Format.order; rw [h1, h2, hd, k]; rfl
    · unfold Ieee.Format.order; rw [h1, h2, hd, k]; try rfl
  | number s m' i' =>
    obtain ⟨n', j', k, k3⟩ := wid_read hd
    rcases h with ⟨m, i, n, j, h1, h2, h3⟩ | ⟨h1, h2⟩
    · refine order_val ⟨_, _, _, h2⟩ ⟨_, _, _, k⟩ ⟨_, _, _, h1⟩ ⟨_, _, _, hd⟩ ?_ ?_
      · rw [Flo.V_eq h1, Flo.V_eq h2]; unfold Flo.val; simp only [Bool.false_eq_true, if_false]; rw [h3]
      · rw [Flo.V_eq hd, Flo.V_eq k]; unfold Flo.val; rw [k3]
    · unfold Ieee.Format.order; rw [h1, h2, hd, k]; rfl

/-- two of single precision that stand for the same one are the same, widened -/
theorem Tw.same {p q b : Nat} (h : Tw p b) (k : Tw q b) (w1 w2 : World) : sameF (fcv w1 .f32 p .f64) (fcv w2 .f32 q .f64) = true := by
  rw [fcv_wide h.nan.1, fcv_wide k.nan.1]
  unfold sameF
  rw [wid_nan h.nan.1, wid_nan k.nan.1]
  simp only [Bool.or_self, Bool.false_eq_true, if_false]
  rw [show FloatKind.f64.format = Ieee.double from rfl]
  rcases h with ⟨m, i, n, j, h1, h2, h3⟩ | ⟨h1, h2⟩
  · rcases k with ⟨m', i', n', j', k1, k2, k3⟩ | ⟨k1, k2⟩
    · rw [h2] at k2; cases k2
      obtain ⟨a, c, e1, e2⟩ := wid_read h1
      obtain ⟨a', c', e3, e4⟩ := wid_read k1
      have ev : Flo.V Ieee.double (wid p) = Flo.V Ieee.double (wid q) := by rw [Flo.V_eq e1, Flo.V_eq e3]; unfold Flo.val; rw [e2, e4, h3, k3]
      have eq : Ieee.double.order (wid p) (wid q) = some .eq := (Flo.order_num Ieee.double (wid p) (wid q) ⟨_, _, _, e1⟩ ⟨_, _, _, e3⟩).2.1.2 ev
      have e0 : Ieee.double.order (wid p) 0 = Ieee.double.order (wid q) 0 := order_val ⟨_, _, _, e1⟩ zero_num.1 ⟨_, _, _, e3⟩ zero_num.1 ev rfl
      split
      · rename_i hz
        simp only [Bool.and_eq_true, beq_iff_eq] at hz
        have z1 := (Flo.order_num Ieee.double (wid p) 0 ⟨_, _, _, e1⟩ zero_num.1).2.1.1 hz.1
        have z2 := (Flo.order_num Ieee.double (wid q) 0 ⟨_, _, _, e3⟩ zero_num.1).2.1.1 hz.2
        rw [show Flo.V Ieee.double 0 = 0 from zero_num.2] at z1 z2
        have q1 : ∀ x a c, Ieee.double.read x = .number false a c → Flo.V Ieee.double x = 0 → (floatBits .quo .f64 4607182418800017408 x).getD 0 = (floatBits .quo .f64 4607182418800017408 0).getD 0 := by
          intro x a c hx hv
          have ha : a = 0 := by
            rw [Flo.V_eq hx] at hv
            unfold Flo.val at hv
            simp only [Bool.false_eq_true, if_false] at hv
            rcases Nat.eq_zero_or_pos a with h0 | h0
            · exact h0
            · exfalso
              have h1 : (0 : Rat) < a := by exact_mod_cast h0
              have := Rat.mul_pos h1 (Flo.pw_pos c)
              grind
          subst ha
          have hz : Ieee.double.read 0 = .number false 0 (-1074) := by decide
          show ((Ieee.double.div 4607182418800017408 x).getD 0) = ((Ieee.double.div 4607182418800017408 0).getD 0)
          unfold Ieee.Format.div
          rw [hx, hz]
          cases hr : Ieee.double.read 4607182418800017408 with
          | nan s f => rfl
          | infinity s => rfl
          | number s m i => by_cases hm : m = 0 <;> simp [Ieee.Datum.quotient, hm]
        rw [q1 _ _ _ e1 z1, q1 _ _ _ e3 z2]
        simp
      · rw [eq]; rfl
    · rw [h2] at k2; cases k2
  · rcases k with ⟨m', i', n', j', k1, k2, k3⟩ | ⟨k1, k2⟩
    · rw [h2] at k2; cases k2
    · have e1 := wid_inf h1
      have e2 := wid_inf k1
      have hz : Ieee.double.read 0 = .number false 0 (-1074) := by decide
      have o1 : Ieee.double.order (wid p) 0 = some .gt := by unfold Ieee.Format.order; rw [e1, hz]; rfl
      have o2 : Ieee.double.order (wid p) (wid q) = some .eq := by unfold Ieee.Format.order; rw [e1, e2]; rfl
      rw [o1, o2]; rfl

/-- narrowed again -/
theorem tw_narrow {x z : Nat} {s : Bool} {m : Nat} {i : Int} (hx : Ieee.single.read x = .number s m i) {n : Nat} {j : Int} (hz : Ieee.double.read z = .number false n j) (he : (n : Rat) * Flo.pw j = (m : Rat) * Flo.pw i) (w : World) :
    Tw (fcv w .f64 z .f32) z ∧ fcd .f64 z .f32 = 0 := by
  obtain ⟨h1, h2, h3⟩ := single_bound hx
  have e1 : Ieee.single.leastPlace = -149 := by decide
  have e2 : (2 ^ Ieee.single.exponentBits : Nat) = 256 := by decide
  obtain ⟨m', p', w1, w4⟩ := Flo.write_exact_top Ieee.single (by decide) false n j m i he (Nat.lt_of_lt_of_le h1 (by decide)) (by omega) (by omega)
  have hd : FloatKind.f64.decode z = .number false n j := hz
  have hr : FloatKind.f32.decode (FloatKind.f32.encode (.number false n j)) = .number false m' p' := w1
  constructor
  · unfold fcv
    rw [if_neg (by decide), hd]
    simp only
    rw [hr]
    simp only [Ieee.Datum.isInfinity, Bool.false_eq_true, if_false]
    exact .inl ⟨m', p', n, j, w1, hz, w4⟩
  · unfold fcd
    rw [if_neg (by decide), hd]
    simp only
    rw [hr]
    simp [Ieee.Datum.isInfinity]
theorem tw_narrow_inf {z : Nat} (hz : Ieee.double.read z = .infinity false) (w : World) : Tw (fcv w .f64 z .f32) z ∧ fcd .f64 z .f32 = 0 := by
  have hd : FloatKind.f64.decode z = .infinity false := hz
  constructor
  · unfold fcv
    rw [if_neg (by decide), hd]
    refine .inr ⟨?_, hz⟩
    show Ieee.single.read (Ieee.single.word false Ieee.single.infRung) = _
    rw [Flo.read_word_inf, if_neg (by decide)]
  · unfold fcd
    rw [if_neg (by decide), hd]


/-! ### absolute values -/
theorem labs_read {z : Nat} (hz : z < 2 ^ 64) {s : Bool} {n : Nat} {j : Int} (h : Ieee.double.read z = .number s n j) : ∃ n' j', Ieee.double.read (labs z) = .number false n' j' ∧ (n' : Rat) * Flo.pw j' = (n : Rat) * Flo.pw j := by
  have o := Flo.order_num Ieee.double z 0 ⟨_, _, _, h⟩ zero_num.1
  rw [show Flo.V Ieee.double 0 = 0 from zero_num.2, Flo.V_eq h] at o
  have hp := Flo.pw_pos j
  have hn : (0 : Rat) ≤ n := by exact_mod_cast Nat.zero_le n
  have hnp := Rat.mul_nonneg hn (Rat.le_of_lt hp)
  unfold labs
  rw [show FloatKind.f64.format = Ieee.double from rfl]
  by_cases h1 : Ieee.double.order z 0 = some .lt
  · rw [if_pos h1]
    have hlt := o.1.1 h1
    have hs : s = true := by
      cases s with
      | true => rfl
      | false => exfalso; unfold Flo.val at hlt; simp only [Bool.false_eq_true, if_false] at hlt; grind
    subst hs
    exact ⟨n, j, neg_read z hz true n j h, rfl⟩
  · rw [if_neg h1]
    by_cases h2 : Ieee.double.order z 0 = some .eq
    · rw [if_pos h2]
      have hv := o.2.1.1 h2
      refine ⟨0, -1074, by decide, ?_⟩
      unfold Flo.val at hv
      cases s <;> simp at hv ⊢ <;> grind
    · rw [if_neg h2]
      have hs : s = false := by
        cases s with
        | false => rfl
        | true =>
          exfalso
          unfold Flo.val at o
          simp only [if_true] at o
          rcases Classical.em (-1 * ((n : Rat) * Flo.pw j) < 0) with h3 | h3
          · exact h1 (o.1.2 h3)
          · exact h2 (o.2.1.2 (by grind))
      subst hs
      exact ⟨n, j, h, rfl⟩
theorem neg_inf {z : Nat} (hz : z < 2 ^ 64) (h : Ieee.double.read z = .infinity true) : Ieee.double.read (Op.negFloat .f64 z) = .infinity false := by
  have hsw : Ieee.double.signWeight = 9223372036854775808 := by decide
  have hir : Ieee.double.infRung = 9218868437227405312 := by decide
  have hz2 : z = 18442240474082181120 := by
    unfold Ieee.Format.read at h
    rw [hsw, hir] at h
    simp only at h
    split at h
    · cases h
    · split at h
      · cases h
      · split at h
        · rename_i g
          have hs : (z / 9223372036854775808 % 2 == 1) = true := by injection h
          simp only [beq_iff_eq] at hs
          omega
        · cases h
  rw [hz2]
  decide
theorem labs_inf {z : Nat} (hz : z < 2 ^ 64) {s : Bool} (h : Ieee.double.read z = .infinity s) : Ieee.double.read (labs z) = .infinity false := by
  have h0 : Ieee.double.read 0 = .number false 0 (-1074) := by decide
  unfold labs
  rw [show FloatKind.f64.format = Ieee.double from rfl]
  cases s with
  | true =>
    have h1 : Ieee.double.order z 0 = some .lt := by unfold Ieee.Format.order; rw [h, h0]; rfl
    rw [if_pos h1]
    exact neg_inf hz h
  | false =>
    have h1 : Ieee.double.order z 0 = some .gt := by unfold Ieee.Format.order; rw [h, h0]; rfl
    rw [h1]
    exact h

/-- THE ABSOLUTE VALUE IN SINGLE PRECISION, AND THAT OF THE MODEL: both stand for the same -/
theorem tw_abs {x : Nat} (hx : nan32 x = false) (w : World) : Tw (fcv w .f64 (wid x % signBit) .f32) (labs (wid x)) ∧ fcd .f64 (wid x % signBit) .f32 = 0 := by
  have hm := mod_read (wid x)
  cases hd : Ieee.single.read x with
  | nan s f => unfold nan32 at hx; rw [show FloatKind.f32.decode x = _ from hd] at hx; cases hx
  | infinity s =>
    have hw := wid_inf hd
    rw [show FloatKind.f64.decode (wid x) = _ from hw] at hm
    have k := tw_narrow_inf hm w
    refine ⟨?_, k.2⟩
    rcases k.1 with ⟨m, i, n, j, h1, h2, h3⟩ | ⟨h1, h2⟩
    · rw [show Ieee.double.read (wid x % signBit) = _ from hm] at h2; cases h2
    · exact .inr ⟨h1, labs_inf (wid_lt x) hw⟩
  | number s m i =>
    obtain ⟨n, j, hw, he⟩ := wid_read hd
    rw [show FloatKind.f64.decode (wid x) = _ from hw] at hm
    have k := tw_narrow hd hm he w
    refine ⟨?_, k.2⟩
    obtain ⟨n', j', l1, l2⟩ := labs_read (wid_lt x) hw
    rcases k.1 with ⟨m1, i1, n1, j1, h1, h2, h3⟩ | ⟨h1, h2⟩
    · rw [show Ieee.double.read (wid x % signBit) = _ from hm] at h2
      cases h2
      exact .inl ⟨m1, i1, n', j', h1, l1, by rw [h3, l2]⟩
    · rw [show Ieee.double.read (wid x % signBit) = _ from hm] at h2; cases h2

end Go.Proofs.YtjmignhcfmdcaaaDoor
