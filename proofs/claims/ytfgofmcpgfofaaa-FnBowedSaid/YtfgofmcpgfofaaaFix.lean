/- Plain facts: sums, differences and narrowings that the format has are exact; a product with 1 is the number itself. No program stands in it.
   Conditions: those that each statement names. -/
import Derived.Test.YtfgofmcpgfofaaaDamp
namespace Go.Proofs.Ytfgofmcpgfofaaa
open Go

namespace Flo
/-- a sum that the format has is exact -/
theorem add_fix (f : Ieee.Format) (he : 2 ≤ f.exponentBits) (x y z : Nat) (hx : IsNum f x) (hy : IsNum f y) (hz : IsNum f z) (h : ra (V f x + V f y) = ra (V f z)) (hB : ra (V f z) < pw (top f)) :
    ∃ r, f.add x y = some r ∧ IsNum f r ∧ V f r = V f x + V f y := by
  obtain ⟨s, m, i, hx⟩ := hx
  obtain ⟨t, n, j, hy⟩ := hy
  obtain ⟨q, k, e, hz⟩ := hz
  obtain ⟨b1, b2, -⟩ := read_bound f he z q k e hz
  obtain ⟨q', k', b', h3, h4⟩ := sum_val s t m n i j
  rw [V_eq hx, V_eq hy, V_eq hz, ← h4, val_ra, val_ra] at h
  rw [V_eq hz, val_ra] at hB
  obtain ⟨m', p', k1, k2, k3, k4⟩ := write_exact f he q' k' b' k e h b1 b2 (by rw [h]; exact hB)
  refine ⟨_, ?_, ⟨_, _, _, k1⟩, ?_⟩
  · unfold Ieee.Format.add; rw [hx, hy, h3]; rfl
  · rw [V_eq k1, V_eq hx, V_eq hy, ← h4]; unfold val; rw [k4]
theorem sub_fix (f : Ieee.Format) (he : 2 ≤ f.exponentBits) (x y z : Nat) (hx : IsNum f x) (hy : IsNum f y) (hz : IsNum f z) (h : ra (V f x - V f y) = ra (V f z)) (hB : ra (V f z) < pw (top f)) :
    ∃ r, f.sub x y = some r ∧ IsNum f r ∧ V f r = V f x - V f y := by
  obtain ⟨s, m, i, hx⟩ := hx
  obtain ⟨t, n, j, hy⟩ := hy
  obtain ⟨q, k, e, hz⟩ := hz
  obtain ⟨b1, b2, -⟩ := read_bound f he z q k e hz
  obtain ⟨q', k', b', h3, h4⟩ := sum_val s (!t) m n i j
  rw [val_opp] at h4
  have h5 : val q' k' b' = val s m i - val t n j := by grind
  rw [V_eq hx, V_eq hy, V_eq hz, ← h5, val_ra, val_ra] at h
  rw [V_eq hz, val_ra] at hB
  obtain ⟨m', p', k1, k2, k3, k4⟩ := write_exact f he q' k' b' k e h b1 b2 (by rw [h]; exact hB)
  refine ⟨_, ?_, ⟨_, _, _, k1⟩, ?_⟩
  · unfold Ieee.Format.sub; rw [hx, hy, show (Ieee.Datum.number t n j).opposite = .number (!t) n j from rfl, h3]; rfl
  · rw [V_eq k1, V_eq hx, V_eq hy, ← h5]; unfold val; rw [k4]
/-- a number of double precision that single precision has is narrowed exactly -/
theorem nar_fix (b z : Nat) (hb : Nm b) (hz : IsNum Ieee.single z) (h : ra (W b) = ra (V Ieee.single z)) (hB : ra (V Ieee.single z) < pw 127) :
    IsNum Ieee.single (nar b) ∧ V Ieee.single (nar b) = W b := by
  obtain ⟨s, m, i, hb⟩ := hb
  obtain ⟨q, k, e, hz⟩ := hz
  obtain ⟨b1, b2, -⟩ := read_bound Ieee.single (by decide) z q k e hz
  rw [show W b = _ from V_eq hb, V_eq hz, val_ra, val_ra] at h
  rw [V_eq hz, val_ra] at hB
  obtain ⟨m', p', k1, k2, k3, k4⟩ := write_exact Ieee.single (by decide) s m i k e h b1 b2 (by rw [h, show top Ieee.single = 127 from by decide]; exact hB)
  have hn : nar b = Ieee.single.write (.number s m i) := by
    unfold nar
    rw [show FloatKind.f64.decode b = .number s m i from hb]
    rfl
  rw [hn]
  refine ⟨⟨_, _, _, k1⟩, ?_⟩
  rw [V_eq k1, show W b = _ from V_eq hb]; unfold val; rw [k4]
end Flo

theorem one_s : Sm 1065353216 ∧ S 1065353216 = 1 := by
  have h : Ieee.single.read 1065353216 = .number false 8388608 (-23) := by decide
  refine ⟨⟨_, _, _, h⟩, ?_⟩
  rw [show S 1065353216 = _ from Flo.V_eq h]
  unfold Flo.val
  have := Flo.pw_neg_mul 23
  rw [show Flo.pw 23 = 8388608 from Flo.pw_nat 23] at this
  simp only [Bool.false_eq_true, if_false]
  have e2 : ((8388608 : Nat) : Rat) = 8388608 := rfl
  rw [e2]; grind
theorem nil_s : Sm 0 ∧ S 0 = 0 := by
  have h : Ieee.single.read 0 = .number false 0 (-149) := by decide
  refine ⟨⟨_, _, _, h⟩, ?_⟩
  rw [show S 0 = _ from Flo.V_eq h]
  unfold Flo.val
  simp

/-- MultiplySingle by 1: the parts stay the same numbers -/
theorem mulS_one (a b : Nat) (ha : Sm a) (hb : Sm b) (h1 : ra (S a) ≤ 4) (h2 : ra (S b) ≤ 4) :
    Sm (mulSre a b 1065353216 0) ∧ Sm (mulSim a b 1065353216 0) ∧ S (mulSre a b 1065353216 0) = S a ∧ S (mulSim a b 1065353216 0) = S b := by
  obtain ⟨na, va⟩ := wid_num ha
  obtain ⟨nb, vb⟩ := wid_num hb
  obtain ⟨n1, v1⟩ := wid_num one_s.1
  obtain ⟨n0, v0⟩ := wid_num nil_s.1
  rw [one_s.2] at v1
  rw [nil_s.2] at v0
  have l1 : (4 : Rat) < Flo.pw 127 := by
    have : Flo.pw 2 < Flo.pw 127 := Flo.pw_lt (by omega)
    rw [show Flo.pw 2 = 4 from Flo.pw_nat 2] at this
    exact this
  have l2 : Flo.pw 127 < Flo.pw 1023 := Flo.pw_lt (by omega)
  have mul1 : ∀ x y : Nat, Sm x → Sm y → ra (S x) ≤ 4 → (S y = 1 ∨ S y = 0) → Flo.Nm (opB .mul .f64 (wid x) (wid y)) ∧ Flo.W (opB .mul .f64 (wid x) (wid y)) = S x * S y := by
    intro x y hx hy h4 h10
    obtain ⟨nx, vx⟩ := wid_num hx
    obtain ⟨ny, vy⟩ := wid_num hy
    rcases h10 with h10 | h10
    · obtain ⟨r, e1, e2, e3⟩ := Flo.mul_fix Ieee.double (by decide) (wid x) (wid y) (wid x) nx ny nx
        (by show ra (Flo.W (wid x) * Flo.W (wid y)) = ra (Flo.W (wid x)); rw [vx, vy, h10, show S x * 1 = S x by grind])
        (by rw [Flo.top_double]; show ra (Flo.W (wid x)) < _; rw [vx]; grind)
      obtain ⟨c, b⟩ := Calm.of (show floatBits .mul .f64 (wid x) (wid y) = some r from e1)
      rw [b]
      exact ⟨e2, by rw [show Flo.W r = _ from e3]; show Flo.W (wid x) * Flo.W (wid y) = _; rw [vx, vy]⟩
    · obtain ⟨r, e1, e2, e3⟩ := Flo.mul_fix Ieee.double (by decide) (wid x) (wid y) (wid y) nx ny ny
        (by show ra (Flo.W (wid x) * Flo.W (wid y)) = ra (Flo.W (wid y)); rw [vx, vy, h10, show S x * 0 = 0 by grind])
        (by rw [Flo.top_double]; show ra (Flo.W (wid y)) < _; rw [vy, h10, ra_pos (Rat.le_refl)]; grind)
      obtain ⟨c, b⟩ := Calm.of (show floatBits .mul .f64 (wid x) (wid y) = some r from e1)
      rw [b]
      exact ⟨e2, by rw [show Flo.W r = _ from e3]; show Flo.W (wid x) * Flo.W (wid y) = _; rw [vx, vy]⟩
  obtain ⟨m1, w1⟩ := mul1 a 1065353216 ha one_s.1 h1 (.inl one_s.2)
  obtain ⟨m2, w2⟩ := mul1 b 0 hb nil_s.1 h2 (.inr nil_s.2)
  obtain ⟨m3, w3⟩ := mul1 a 0 ha nil_s.1 h1 (.inr nil_s.2)
  obtain ⟨m4, w4⟩ := mul1 b 1065353216 hb one_s.1 h2 (.inl one_s.2)
  rw [one_s.2] at w1 w4
  rw [nil_s.2] at w2 w3
  have hA : ra (S a) < Flo.pw 1023 := by grind
  have hB : ra (S b) < Flo.pw 1023 := by grind
  have fs : ∀ x y z : Nat, Flo.Nm x → Flo.Nm y → Flo.Nm z → ra (Flo.W x - Flo.W y) = ra (Flo.W z) → ra (Flo.W z) < Flo.pw 1023 → ∃ r, floatBits .sub .f64 x y = some r ∧ Flo.Nm r ∧ Flo.W r = Flo.W x - Flo.W y :=
    fun x y z hx hy hz h hb => Flo.sub_fix Ieee.double (by decide) x y z hx hy hz h (by rw [Flo.top_double]; exact hb)
  have fa : ∀ x y z : Nat, Flo.Nm x → Flo.Nm y → Flo.Nm z → ra (Flo.W x + Flo.W y) = ra (Flo.W z) → ra (Flo.W z) < Flo.pw 1023 → ∃ r, floatBits .add .f64 x y = some r ∧ Flo.Nm r ∧ Flo.W r = Flo.W x + Flo.W y :=
    fun x y z hx hy hz h hb => Flo.add_fix Ieee.double (by decide) x y z hx hy hz h (by rw [Flo.top_double]; exact hb)
  obtain ⟨r, e1, e2, e3⟩ := fs (opB .mul .f64 (wid a) (wid 1065353216)) (opB .mul .f64 (wid b) (wid 0)) (wid a) m1 m2 na (by rw [w1, w2, va, show S a * 1 - S b * 0 = S a by grind]) (by rw [va]; exact hA)
  obtain ⟨r', e1', e2', e3'⟩ := fa (opB .mul .f64 (wid a) (wid 0)) (opB .mul .f64 (wid b) (wid 1065353216)) (wid b) m3 m4 nb (by rw [w3, w4, vb, show S a * 0 + S b * 1 = S b by grind]) (by rw [vb]; exact hB)
  have f1 : Flo.W r = S a := by rw [e3, w1, w2]; grind
  have f2 : Flo.W r' = S b := by rw [e3', w3, w4]; grind
  obtain ⟨c, b1⟩ := Calm.of e1
  obtain ⟨c', b1'⟩ := Calm.of e1'
  obtain ⟨g1, g2⟩ := Flo.nar_fix r a e2 ha (by rw [f1]) (by show ra (S a) < _; grind)
  obtain ⟨g3, g4⟩ := Flo.nar_fix r' b e2' hb (by rw [f2]) (by show ra (S b) < _; grind)
  unfold mulSre mulSim
  rw [b1, b1']
  exact ⟨g1, g3, by rw [show S (Flo.nar r) = _ from g2]; exact f1, by rw [show S (Flo.nar r') = _ from g4]; exact f2⟩
end Go.Proofs.Ytfgofmcpgfofaaa
