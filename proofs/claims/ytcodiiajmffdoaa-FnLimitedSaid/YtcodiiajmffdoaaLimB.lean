/- Plain facts on the limiter: the envelope of finite samples, and how great a limited sample is.
   Conditions: those that each statement names. No program stands in it. -/
import Derived.Test.YtcodiiajmffdoaaLimS
import Derived.Test.YtcodiiajmffdoaaLev
import Derived.Test.YtcodiiajmffdoaaUnit
namespace Go.Proofs.Ytcodiiajmffdoaa
open Go

namespace Flo
open Ieee
theorem div_ok8 (f : Format) (he : 2 ≤ f.exponentBits) (x y : Nat) (hx : IsNum f x) (hy : IsNum f y) (hy0 : V f y ≠ 0) (q B : Rat) (hq : q * V f y = V f x) (h1 : q ≤ B) (h2 : -B ≤ q) (hB : 2 * B < pw (top f)) :
    ∃ r, f.div x y = some r ∧ IsNum f r ∧ Near (V f r) q (B * (7 / 8 * pw (-f.fractionBits)) + pw f.leastPlace) := by
  obtain ⟨s, m, i, hx⟩ := hx
  obtain ⟨t, n, j, hy⟩ := hy
  rw [V_eq hx] at *
  rw [V_eq hy] at *
  obtain ⟨k, b, h3, h4⟩ := quot_signed s t m n i j (f.fractionBits + 2) (by omega) (val_ne_zero _ _ _ hy0) q B hq h1 h2
  unfold Format.div
  rw [hx, hy, h3]
  refine ⟨_, rfl, ?_⟩
  have hu : pw (-((f.fractionBits + 2 : Nat) : Int)) = pw (-(f.fractionBits : Int)) / 4 := by
    have : pw (-(f.fractionBits : Int)) = 2 * (2 * pw (-((f.fractionBits + 2 : Nat) : Int))) := by rw [← pw_succ, ← pw_succ]; congr 1; omega
    rw [this]; grind
  rw [hu] at h4
  have hup := pw_pos (-(f.fractionBits : Int))
  have hu1 : pw (-(f.fractionBits : Int)) ≤ 1 := by rw [← pw_zero]; exact pw_le (by omega)
  have hB0 : 0 ≤ B := by grind
  have hBu := Rat.mul_le_mul_of_nonneg_left hu1 hB0
  obtain ⟨n1, n2⟩ := h4
  have hw := write_ok f he (s ^^ t) k b (B + B * (pw (-(f.fractionBits : Int)) / 4)) (by grind) (by grind) (by grind)
  refine ⟨hw.1, ?_⟩
  obtain ⟨w1, w2⟩ := hw.2
  have hlp := pw_pos f.leastPlace
  have hBuu := Rat.mul_le_mul_of_nonneg_right hBu (Rat.le_of_lt hup)
  have := Rat.mul_nonneg hB0 (Rat.le_of_lt hup)
  generalize pw (-(f.fractionBits : Int)) = u at *
  generalize pw f.leastPlace = l at *
  unfold Near
  constructor <;> grind

theorem s_div8 (x y : Nat) (hx : Sm x) (hy : Sm y) (hy0 : S y ≠ 0) (q B : Rat) (hq : q * S y = S x) (h : Ab q B) (hB : B < pw 126) :
    ∃ r, floatBits .quo .f32 x y = some r ∧ Sm r ∧ Ab (S r - q) (7 / 4 * (B * v) + es) := by
  obtain ⟨r, h1, h2, h3⟩ := div_ok8 Ieee.single (by decide) x y hx hy hy0 q B hq h.2 h.1 (by
    rw [top_single, show (127 : Int) = 126 + 1 from rfl, pw_succ]; grind)
  rw [lp_single, fb_single] at h3
  have e : pw (-23) = 2 * pw (-24) := by rw [← pw_succ]; rfl
  rw [e] at h3
  refine ⟨r, h1, h2, ?_⟩
  unfold Near at h3; unfold Ab S v es; grind

end Flo

/-- a number that is not negative, and no -0 -/
def Pn (x : Nat) : Prop := ∃ m p, Ieee.single.read x = .number false m p
theorem Pn.sm {x : Nat} (h : Pn x) : Sm x := by obtain ⟨m, p, h⟩ := h; exact ⟨_, _, _, h⟩
theorem Pn.nonneg {x : Nat} (h : Pn x) : 0 ≤ S x := by
  obtain ⟨m, p, h⟩ := h
  rw [show S x = _ from Flo.V_eq h]
  unfold Flo.val
  have := Flo.mag_nonneg m p
  simp; exact this
theorem fab_sm {x : Nat} (h : Sm x) : fab .f32 x = some x := by
  refine fab_some ?_
  obtain ⟨s, m, p, h⟩ := h
  rw [show FloatKind.f32.decode x = _ from h]; rfl
theorem abs_pn {x : Nat} (h : Sm x) : absA x = some (x % 2147483648) ∧ Pn (x % 2147483648) ∧ S (x % 2147483648) = ra (S x) := by
  have hn := sm_nn h
  obtain ⟨s, m, p, h⟩ := h
  have hm := read_mod (x := x)
  rw [show FloatKind.f32.decode x = _ from h] at hm
  refine ⟨by unfold absA; rw [hn]; rfl, ⟨m, p, hm⟩, ?_⟩
  rw [show S (x % 2147483648) = _ from Flo.V_eq (show Ieee.single.read _ = _ from hm), show S x = _ from Flo.V_eq h, Flo.val_ra]
  unfold Flo.val; simp
theorem gtA_val {a b : Nat} (ha : Sm a) (hb : Sm b) : gtA (some a) (some b) = decide (S b < S a) := by
  have o := Flo.order_num Ieee.single a b ha hb
  show (FloatKind.f32.format.order a b == some .gt) = _
  by_cases h : S b < S a
  · rw [decide_eq_true h]
    simpa using (show FloatKind.f32.format.order a b = some .gt from o.2.2.2 h)
  · rw [decide_eq_false h]
    cases hg : (FloatKind.f32.format.order a b == some .gt) with
    | false => rfl
    | true => exact absurd (o.2.2.1 (show FloatKind.f32.format.order a b = some .gt by simpa using hg)) h
theorem mul_shrink {a r : Nat} (ha : Pn a) (hr : Pn r) (h1 : S r ≤ 1) (hB : S a < Flo.pw 127) : ∃ p, fA .mul .f32 (some a) (some r) = some p ∧ Pn p ∧ S p ≤ S a := by
  obtain ⟨m, i, ha⟩ := ha
  obtain ⟨n, j, hr⟩ := hr
  have ea : S a = (m : Rat) * Flo.pw i := by rw [show S a = _ from Flo.V_eq ha]; unfold Flo.val; simp
  have er : S r = (n : Rat) * Flo.pw j := by rw [show S r = _ from Flo.V_eq hr]; unfold Flo.val; simp
  have hm0 := Flo.mag_nonneg m i
  have hle : ((m * n : Nat) : Rat) * Flo.pw (i + j) ≤ (m : Rat) * Flo.pw i := by
    rw [Flo.pw_add, Rat.natCast_mul]
    have k := Rat.mul_le_mul_of_nonneg_left (show (n : Rat) * Flo.pw j ≤ 1 by rw [← er]; exact h1) hm0
    grind
  obtain ⟨m', p', n', q', k1, k2, k3⟩ := Flo.write_mono Ieee.single (by decide) false false (m * n) m (i + j) i hle (by rw [← ea, Flo.top_single]; exact hB)
  rw [Flo.read_back Ieee.single (by decide) ha] at k2
  injection k2 with _ e1 e2
  refine ⟨Ieee.single.write (.number false (m * n) (i + j)), ?_, ⟨_, _, k1⟩, ?_⟩
  · show Ieee.single.mul a r = _
    unfold Ieee.Format.mul
    rw [ha, hr]; rfl
  · rw [show S (Ieee.single.write (.number false (m * n) (i + j))) = _ from Flo.V_eq k1, ea, e1, e2]
    unfold Flo.val; simp; exact k3
theorem limE_ok {e x r : Nat} (he : Pn e) (hx : Sm x) (hr : Pn r) (h1 : S r ≤ 1) (hB : S e < Flo.pw 127) : ∃ d, limE (some e) x r = some d ∧ Pn d ∧ ra (S x) ≤ S d ∧ (S d ≤ S e ∨ S d = ra (S x)) := by
  obtain ⟨a1, a2, a3⟩ := abs_pn hx
  obtain ⟨p, p1, p2, p3⟩ := mul_shrink he hr h1 hB
  unfold limE
  rw [a1, fab_sm hr.sm, p1, gtA_val a2.sm p2.sm]
  by_cases h : S p < S (x % 2147483648)
  · rw [decide_eq_true h]
    exact ⟨_, rfl, a2, by rw [a3]; exact Rat.le_refl, .inr a3⟩
  · rw [decide_eq_false h]
    exact ⟨p, rfl, p2, by rw [a3] at h; grind, .inl p3⟩
theorem env_ok (zs : List Nat) (r : Nat) (M : Rat) (hz : ∀ x ∈ zs, Sm x) (hr : Pn r) (h1 : S r ≤ 1) (h0 : 0 ≤ M) (hM : M < Flo.pw 127) (hb : ∀ x ∈ zs, ra (S x) ≤ M) :
    ∀ k, k ≤ zs.length → ∃ e, eA zs r k = some e ∧ Pn e ∧ S e ≤ M ∧ ∀ C, 0 ≤ C → (∀ j, j < k → ra (S (zs.getD j 0)) ≤ C) → S e ≤ C
  | 0, _ => by
    have z0 : Ieee.single.read 0 = .number false 0 (-149) := by decide
    have s0 : S 0 = 0 := by rw [show S 0 = _ from Flo.V_eq z0, Flo.val_zero]
    exact ⟨0, fab_some (by decide), ⟨_, _, z0⟩, by rw [s0]; exact h0, fun C hC _ => by rw [s0]; exact hC⟩
  | k + 1, hk => by
    obtain ⟨e, e1, e2, e3, e4⟩ := env_ok zs r M hz hr h1 h0 hM hb k (by omega)
    have hmem : zs.getD k 0 ∈ zs := by
      rw [List.getD_eq_getElem?_getD, List.getElem?_eq_getElem (show k < zs.length by omega)]
      exact List.getElem_mem _
    obtain ⟨d, d1, d2, d3, d4⟩ := limE_ok e2 (hz _ hmem) hr h1 (by grind)
    refine ⟨d, ?_, d2, ?_, fun C hC hj => ?_⟩
    · show limE (eA zs r k) (zs.getD k 0) r = _
      rw [e1]; exact d1
    · rcases d4 with g | g
      · grind
      · rw [g]; exact hb _ hmem
    · rcases d4 with g | g
      · have := e4 C hC (fun j hj' => hj j (by omega))
        grind
      · rw [g]; exact hj k (by omega)

/-- a limited sample: at most the ceiling and three parts in 2^24 of it; the sample itself, where none before it was greater -/
theorem lim_ok (zs : List Nat) (c r : Nat) (M : Rat) (hz : ∀ x ∈ zs, Sm x) (hr : Pn r) (h1 : S r ≤ 1) (h0 : 0 ≤ M) (hM : M ≤ Flo.pw 61) (hb : ∀ x ∈ zs, ra (S x) ≤ M) (hc : Pn c) (c1 : Flo.pw (-41) ≤ S c) (c2 : S c ≤ Flo.pw 41) (k : Nat) (hk : k < zs.length) :
    ∃ y, yA zs c r k = some y ∧ Sm y ∧ Flo.Ab (S y) (S c + 3 * (S c * Flo.v)) ∧ ((∀ j, j ≤ k → ra (S (zs.getD j 0)) ≤ S c) → y = zs.getD k 0) := by
  have hM127 : M < Flo.pw 127 := by have := Flo.pw_lt (a := 61) (b := 127) (by omega); grind
  obtain ⟨e, e1, e2, e3, -⟩ := env_ok zs r M hz hr h1 h0 hM127 hb k (by omega)
  have hmem : zs.getD k 0 ∈ zs := by
    rw [List.getD_eq_getElem?_getD, List.getElem?_eq_getElem (show k < zs.length by omega)]
    exact List.getElem_mem _
  have hx := hz _ hmem
  obtain ⟨d, d1, d2, d3, d4⟩ := limE_ok e2 hx hr h1 (by grind)
  obtain ⟨d', f1, f2, f3, f4⟩ := env_ok zs r M hz hr h1 h0 hM127 hb (k + 1) (by omega)
  have hdd : d' = d := by
    have : eA zs r (k + 1) = some d := by show limE (eA zs r k) (zs.getD k 0) r = _; rw [e1]; exact d1
    rw [this] at f1
    injection f1 with f1
    exact f1.symm
  subst hdd
  have hxd := ra_ab (S (zs.getD k 0))
  have v0 := Flo.v_pos
  have ve := Flo.v_eq
  have c0 : 0 < S c := by have := Flo.pw_pos (-41); grind
  have cv : 0 ≤ S c * Flo.v := Rat.mul_nonneg (Rat.le_of_lt c0) (Rat.le_of_lt v0)
  unfold yA limY
  rw [e1, d1, fab_sm hc.sm, fab_sm hx, gtA_val d2.sm hc.sm]
  generalize zs.getD k 0 = x at *
  by_cases h : S c < S d'
  · rw [decide_eq_true h]
    have hd0 : 0 < S d' := by grind
    have rx0 := ra_nonneg (S x)
    -- the product
    have hxc : Flo.Ab (S x * S c) (ra (S x) * S c) := hxd.mul ⟨by grind, Rat.le_refl⟩
    have hdc : ra (S x) * S c ≤ S d' * S c := Rat.mul_le_mul_of_nonneg_right d3 (Rat.le_of_lt c0)
    have hMc : S d' * S c ≤ Flo.pw 61 * Flo.pw 41 := by
      have k1 := Rat.mul_le_mul_of_nonneg_right (show S d' ≤ Flo.pw 61 by grind) (Rat.le_of_lt c0)
      have k2 := Rat.mul_le_mul_of_nonneg_left c2 (Rat.le_of_lt (Flo.pw_pos 61))
      grind
    rw [← Flo.pw_add, show (61 + 41 : Int) = 102 from rfl] at hMc
    have l102 : Flo.pw 102 < Flo.pw 126 := Flo.pw_lt (by omega)
    have l103 : Flo.pw 126 < Flo.pw 127 := Flo.pw_lt (by omega)
    obtain ⟨q, q1, q2, q3⟩ := Flo.s_mul x c hx hc.sm (S d' * S c) (hxc.mono hdc) (by grind)
    have es0 := Flo.es_pos
    -- es against the ceiling
    have hes : Flo.es ≤ S c * (S c * Flo.v) / 1024 := by
      have k1 := Rat.mul_le_mul_of_nonneg_left c1 (Rat.le_of_lt (Flo.pw_pos (-41)))
      have k2 := Rat.mul_le_mul_of_nonneg_right c1 (Rat.le_of_lt c0)
      have k3 : Flo.pw (-82) ≤ S c * S c := by rw [show (-82 : Int) = -41 + -41 from rfl, Flo.pw_add]; grind
      have k4 := Rat.mul_le_mul_of_nonneg_right k3 (Rat.le_of_lt v0)
      have k5 : Flo.pw (-116) ≤ Flo.pw (-82) * Flo.v / 1024 := by
        have e1 : Flo.v = Flo.pw (-24) := rfl
        rw [e1, ← Flo.pw_add, show (-82 + -24 : Int) = -106 from rfl]
        have e2 : Flo.pw (-106) = Flo.pw 10 * Flo.pw (-116) := by rw [← Flo.pw_add]; rfl
        have e3 : Flo.pw 10 = 1024 := Flo.pw_nat 10
        rw [e2, e3]; grind
      have k6 : Flo.es ≤ Flo.pw (-116) := Flo.pw_le (by omega)
      grind
    have hq : Flo.Ab (S q) (S d' * S c + (S d' * S c * Flo.v + Flo.es)) := (((hxc.mono hdc).add q3).eq (show _ = S q by grind))
    have hdv : S d' * S c * Flo.v = S d' * (S c * Flo.v) := by grind
    have hed : Flo.es ≤ S d' * (S c * Flo.v) / 1024 := by
      have := Rat.mul_le_mul_of_nonneg_right (Rat.le_of_lt h) cv
      grind
    have hqt : S q / S d' * S d' = S q := by grind
    have hqa : Flo.Ab (S q / S d') (S c + S c * Flo.v + S c * Flo.v / 1024) := by
      refine Flo.Ab.div (y := S d') (D := S d') ?_ hd0 Rat.le_refl
      rw [hqt]
      refine hq.mono ?_
      rw [hdv]; grind
    have l41 : Flo.pw 41 < Flo.pw 102 := Flo.pw_lt (by omega)
    have hv1 : S c * Flo.v ≤ S c / 1024 := by
      have : Flo.v = 1 / 16777216 := by grind
      rw [this]; grind
    have p125 : 4 * Flo.pw 102 ≤ Flo.pw 126 := by
      have e : Flo.pw 104 = 4 * Flo.pw 102 := by rw [show (104 : Int) = 102 + 1 + 1 from rfl, Flo.pw_succ, Flo.pw_succ]; grind
      have l : Flo.pw 104 ≤ Flo.pw 126 := Flo.pw_le (by omega)
      grind
    obtain ⟨y, y1, y2, y3⟩ := Flo.s_div8 q d' q2 d2.sm (by grind) (S q / S d') _ hqt hqa (by grind)
    have hesc : Flo.es ≤ S c * Flo.v / 1024 := by
      have k : Flo.pw (-149) ≤ Flo.pw (-41) * Flo.v / 1024 := by
        have e1 : Flo.v = Flo.pw (-24) := rfl
        rw [e1, ← Flo.pw_add, show (-41 + -24 : Int) = -65 from rfl]
        have e2 : Flo.pw (-65) = Flo.pw 10 * Flo.pw (-75) := by rw [← Flo.pw_add]; rfl
        have e3 : Flo.pw 10 = 1024 := Flo.pw_nat 10
        have l : Flo.pw (-149) ≤ Flo.pw (-75) := Flo.pw_le (by omega)
        rw [e2, e3]; grind
      have k2 := Rat.mul_le_mul_of_nonneg_right c1 (Rat.le_of_lt v0)
      unfold Flo.es; grind
    refine ⟨y, ?_, y2, ?_, fun hall => ?_⟩
    · show fA .quo .f32 (floatBits .mul .f32 x c) (some d') = some y
      rw [q1]; exact y1
    · refine ((y3.add hqa).eq (show _ = S y by grind)).mono ?_
      have hvv : S c * Flo.v * Flo.v ≤ S c * Flo.v / 1024 := by
        have : Flo.v ≤ 1 / 1024 := by grind
        have := Rat.mul_le_mul_of_nonneg_left this cv
        grind
      grind
    · exfalso
      have := f4 (S c) (Rat.le_of_lt c0) (fun j hj => hall j (by omega))
      grind
  · rw [decide_eq_false h]
    refine ⟨x, rfl, hx, hxd.mono ?_, fun _ => rfl⟩
    grind

end Go.Proofs.Ytcodiiajmffdoaa
