/- A bow's first ten steps in plain numbers: nothing overflows; and one step behind them, which may be infinite, but is the same each time.
   Conditions: those that each statement names. -/
import Derived.Test.YtfgofmcpgfofaaaStepA
import Derived.Test.YtfgofmcpgfofaaaLess
namespace Go.Proofs.Ytfgofmcpgfofaaa
open Go Go.RowKit

theorem calm_some {o : BinOp} {k : FloatKind} {x y : Nat} (h : floatBits o k x y ≠ none) : Calm o k x y := by
  unfold Calm opB
  cases hb : floatBits o k x y with
  | some r => rfl
  | none => exact absurd hb h
theorem calm_mul_num (a b : Nat) (ha : Sm a) (hb : Sm b) : Calm .mul .f32 a b := by
  obtain ⟨s, m, i, ha⟩ := ha
  obtain ⟨t, n, j, hb⟩ := hb
  refine calm_some ?_
  show Ieee.single.mul a b ≠ none
  unfold Ieee.Format.mul
  rw [ha, hb]
  simp [Ieee.Datum.product]
theorem calm_add_num (a b : Nat) (ha : Sm a) (hb : (FloatKind.f32.decode b).isNaN = false) : Calm .add .f32 a b := by
  obtain ⟨s, m, i, ha⟩ := ha
  refine calm_some ?_
  show Ieee.single.add a b ≠ none
  unfold Ieee.Format.add
  unfold FloatKind.decode at hb
  rw [ha]
  cases hr : Ieee.single.read b with
  | nan t f => rw [show FloatKind.f32.format.read b = _ from hr] at hb; simp [Ieee.Datum.isNaN] at hb
  | infinity t => simp [Ieee.Datum.sum]
  | number t n j => simp [Ieee.Datum.sum]

/-- the product of a state and a pole -/
structure ProdOk (m : M4) (s : Nat × Nat) (T : Rat) : Prop where
  p1 : ∃ e D K, PartOk .sub s.1 m.pr s.2 m.pi e D K
  p2 : ∃ e D K, PartOk .add s.1 m.pi s.2 m.pr e D K
  n1 : Sm (mulSre s.1 s.2 m.pr m.pi)
  n2 : Sm (mulSim s.1 s.2 m.pr m.pi)
  b1 : Flo.Ab (S (mulSre s.1 s.2 m.pr m.pi)) (5 * T + 1)
  b2 : Flo.Ab (S (mulSim s.1 s.2 m.pr m.pi)) (5 * T + 1)
theorem prod_near (D T v es : Rat) (hT : 0 ≤ T) (hD : D = 4 * T) (ve : v * 16777216 = 1) (es1 : es ≤ 1 / 1048576) : D + (D * v + (D + 2 * T) * v / 16777216 + 2 * es) ≤ 5 * T + 1 := by
  have hv : v = 1 / 16777216 := by grind
  subst hv; subst hD
  grind
theorem prod_ok (m : M4) (hm : m.ok) (s : Nat × Nat) (h1 : Sm s.1) (h2 : Sm s.2) (T : Rat) (r1 : Flo.Ab (S s.1) T) (r2 : Flo.Ab (S s.2) T) (hT : T ≤ Flo.pw 118) : ProdOk m s T := by
  obtain ⟨n1, n2, n3, n4⟩ := hm.nums
  obtain ⟨q1, q2⟩ := hm.pole
  have hT0 := r1.nonneg
  have l1 : Flo.pw 120 = 4 * Flo.pw 118 := by rw [show (120 : Int) = 2 + 118 from rfl, Flo.pw_add, show Flo.pw 2 = 4 from Flo.pw_nat 2]
  have l2 := Flo.pw_lt (a := 120) (b := 125) (by omega)
  have l3 := Flo.pw_pos 118
  have k1 : Flo.Ab (S s.1 * S m.pr) (2 * T) := (r1.mul q1).mono (by grind)
  have k2 : Flo.Ab (S s.2 * S m.pi) (2 * T) := (r2.mul q2).mono (by grind)
  have k3 : Flo.Ab (S s.1 * S m.pi) (2 * T) := (r1.mul q2).mono (by grind)
  have k4 : Flo.Ab (S s.2 * S m.pr) (2 * T) := (r2.mul q1).mono (by grind)
  have d1 : Flo.Ab (S s.1 * S m.pr - S s.2 * S m.pi) (4 * T) := (k1.sub k2).mono (by grind)
  have d2 : Flo.Ab (S s.1 * S m.pi + S s.2 * S m.pr) (4 * T) := (k3.add k4).mono (by grind)
  have P1 := part_sub s.1 m.pr s.2 m.pi h1 n1 h2 n2 (2 * T) (4 * T) k1 k2 d1 (by grind) (by grind)
  have P2 := part_add s.1 m.pi s.2 m.pr h1 n2 h2 n1 (2 * T) (4 * T) k3 k4 d2 (by grind) (by grind)
  have hb := prod_near (4 * T) T Flo.v Flo.es hT0 rfl Flo.v_eq small'.es1
  refine ⟨⟨_, _, _, P1⟩, ⟨_, _, _, P2⟩, P1.num, P2.num, ?_, ?_⟩
  · exact ((d1.add P1.near).eq (by unfold mulSre; grind)).mono hb
  · exact ((d2.add P2.near).eq (by unfold mulSim; grind)).mono hb

/-- A STEP THAT MAY BE INFINITE, but is no NaN and draws nothing. -/
theorem step_wide (m : M4) (hm : m.ok) (s : Nat × Nat) (x : Nat) (h1 : Sm s.1) (h2 : Sm s.2) (hx : Sm x) (T : Rat) (r1 : Flo.Ab (S s.1) T) (r2 : Flo.Ab (S s.2) T) (hT : T ≤ Flo.pw 118) : StepOk m s x := by
  obtain ⟨n1, n2, n3, n4⟩ := hm.nums
  have P := prod_ok m hm s h1 h2 T r1 r2 hT
  have c1 := calm_mul_num m.gr x n3 hx
  have c2 := calm_mul_num m.gi x n4 hx
  exact ⟨h1, h2, P.p1, P.p2, c1, c2, calm_add_num _ _ P.n1 (floatBits_not_nan c1).1, calm_add_num _ _ P.n2 (floatBits_not_nan c2).1⟩

theorem grow_num (T F v es : Rat) (hT : 0 ≤ T) (hF : 0 ≤ F) (ve : v * 16777216 = 1) (e0 : 0 < es) (es1 : es ≤ 1 / 1048576) :
    (5 * T + 1 + (1024 * F + (1024 * F * v + es))) + ((5 * T + 1 + (1024 * F + (1024 * F * v + es))) * v + es) ≤ 6 * T + 1025 * F + 2 := by
  have hv : v = 1 / 16777216 := by grind
  subst hv
  grind
theorem part_grow (p g x : Nat) (T F : Rat) (hp : Sm p) (hg : Sm g) (hx : Sm x) (hT : 0 ≤ T) (bp : Flo.Ab (S p) (5 * T + 1)) (bg : Flo.Ab (S g) 1024) (bx : Flo.Ab (S x) F) (hTt : T ≤ Flo.pw 118) (hFt : F ≤ Flo.pw 110) :
    Sm (opB .add .f32 p (opB .mul .f32 g x)) ∧ Flo.Ab (S (opB .add .f32 p (opB .mul .f32 g x))) (6 * T + 1025 * F + 2) := by
  have l1 : Flo.pw 126 = 256 * Flo.pw 118 := by rw [show (126 : Int) = 8 + 118 from rfl, Flo.pw_add, show Flo.pw 8 = 256 from Flo.pw_nat 8]
  have l2 : Flo.pw 126 = 65536 * Flo.pw 110 := by rw [show (126 : Int) = 16 + 110 from rfl, Flo.pw_add, show Flo.pw 16 = 65536 from Flo.pw_nat 16]
  have l3 := Flo.pw_lt (a := 126) (b := 127) (by omega)
  have l4 : 1 ≤ Flo.pw 110 := by rw [← Flo.pw_zero]; exact Flo.pw_le (by omega)
  have es1 := small'.es1
  have es0 := Flo.es_pos
  have ve := Flo.v_eq
  have hv : Flo.v = 1 / 16777216 := by grind
  have hF0 := bx.nonneg
  obtain ⟨g1, a1, a2, a3⟩ := Flo.s_mul g x hg hx (1024 * F) (bg.mul bx) (by grind)
  obtain ⟨-, b1⟩ := Calm.of a1
  have bg1 : Flo.Ab (S g1) (1024 * F + (1024 * F * Flo.v + Flo.es)) := ((bg.mul bx).add a3).eq (by grind)
  have hs : Flo.Ab (S p + S g1) (5 * T + 1 + (1024 * F + (1024 * F * Flo.v + Flo.es))) := bp.add bg1
  obtain ⟨r, r1, r2, r3⟩ := Flo.s_add p g1 hp a2 _ hs (by rw [hv]; grind)
  obtain ⟨-, b2⟩ := Calm.of r1
  rw [b1, b2]
  exact ⟨r2, ((hs.add r3).eq (by grind)).mono (grow_num T F Flo.v Flo.es hT hF0 ve es0 es1)⟩
/-- A STEP OF THE FIRST TEN: finite, and its parts are bounded. -/
theorem step_grow (m : M4) (hm : m.ok) (s : Nat × Nat) (x : Nat) (h1 : Sm s.1) (h2 : Sm s.2) (hx : Sm x) (T F : Rat) (r1 : Flo.Ab (S s.1) T) (r2 : Flo.Ab (S s.2) T) (bx : Flo.Ab (S x) F) (bg1 : Flo.Ab (S m.gr) 1024) (bg2 : Flo.Ab (S m.gi) 1024) (hT : T ≤ Flo.pw 118) (hF : F ≤ Flo.pw 110) :
    StepOk m s x ∧ Sm (stepS m s x).1 ∧ Sm (stepS m s x).2 ∧ Flo.Ab (S (stepS m s x).1) (6 * T + 1025 * F + 2) ∧ Flo.Ab (S (stepS m s x).2) (6 * T + 1025 * F + 2) := by
  obtain ⟨n1, n2, n3, n4⟩ := hm.nums
  have P := prod_ok m hm s h1 h2 T r1 r2 hT
  obtain ⟨a1, a2⟩ := part_grow _ m.gr x T F P.n1 n3 hx r1.nonneg P.b1 bg1 bx hT hF
  obtain ⟨c1, c2⟩ := part_grow _ m.gi x T F P.n2 n4 hx r1.nonneg P.b2 bg2 bx hT hF
  exact ⟨step_wide m hm s x h1 h2 hx T r1 r2 hT, a1, c1, a2, c2⟩

end Go.Proofs.Ytfgofmcpgfofaaa
