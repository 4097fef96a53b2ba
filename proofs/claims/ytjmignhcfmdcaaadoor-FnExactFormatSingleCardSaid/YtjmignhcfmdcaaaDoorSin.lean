/- Plain facts on numbers of single precision: widening is exact, narrowing is near; and on what the tests of modes say. No program stands in it.
   Conditions: those that each statement names. -/
import Derived.Test.YtjmignhcfmdcaaaDoorRun
import Derived.Test.YtjmignhcfmdcaaaDoorDiv
namespace Go.Proofs.YtjmignhcfmdcaaaDoor
set_option linter.unusedSimpArgs false
set_option linter.unusedVariables false
open Go

/-! ### draws stand outermost -/
@[go_sem] theorem alloc_drewN (w : World) (n : Nat) (o : Obj) : (w.drewN n).alloc o = (w.alloc o).drewN n := rfl
@[go_sem] theorem setCell_drewN (w : World) (n : Nat) (a : Addr) (v : Value) : (w.drewN n).setCell a v = (w.setCell a v).drewN n := rfl

@[go_sem] theorem drewN_none (w : World) : w.drewN 0 = w := rfl

/-! ### stores of floats and complex numbers -/
@[go_sem] theorem run_store_float {P : Program} (w : World) (a : Addr) (m : Mode) (k : FloatKind) (b : Nat) : (store a (.float k b) m).run P w = stored P w a (.float k b) m := run_store P w a _ m rfl
@[go_sem] theorem run_store_complex {P : Program} (w : World) (a : Addr) (m : Mode) (k : FloatKind) (x y : Nat) : (store a (.complex k x y) m).run P w = stored P w a (.complex k x y) m := run_store P w a _ m rfl

/-! ### quotients by a number other than 0 draw nothing -/
theorem int_nn (k : FloatKind) (n : Int) : (k.decode (floatOfInt k n)).isNaN = false := write_not_nan k.format (.number (n < 0) n.natAbs 0) rfl
theorem quo_calm {k : FloatKind} {x y : Nat} {s : Bool} {m : Nat} {p : Int} (hx : (k.decode x).isNaN = false) (hy : k.decode y = .number s m p) (hm : m ≠ 0) : fdr .quo k x y = 0 := by
  unfold fdr floatBits Ieee.Format.div
  unfold FloatKind.decode at hx hy
  rw [hy]
  cases h : k.format.read x <;> rw [h] at hx <;> simp [Ieee.Datum.isNaN, Ieee.Datum.quotient, hm] at hx ⊢

theorem fres_calm {op : BinOp} {k : FloatKind} {x y : Nat} (h : fdr op k x y = 0) (w : World) : fres w op k x y = (floatBits op k x y).getD 0 := by
  unfold fdr at h; unfold fres
  cases hb : floatBits op k x y with
  | some r => rfl
  | none => rw [hb] at h; simp at h

/-! ### worlds that have only grown -/
/-- nothing that was there has turned -/
def Nw (w w' : World) : Prop := w.grownBy w' none
theorem Nw.refl (w : World) : Nw w w := World.grownBy.refl w _
theorem Nw.trans {a b d : World} (h : Nw a b) (k : Nw b d) : Nw a d :=
  ⟨k.os.trans h.os, k.tape.trans h.tape, k.output.trans h.output, Nat.le_trans h.size k.size, fun i hi hne => (k.block i (Nat.lt_of_lt_of_le hi h.size) hne).trans (h.block i hi hne)⟩
theorem Nw.draw {a w : World} (h : Nw a w) (n : Nat) : Nw a (w.drewN n) := h.trans ⟨rfl, rfl, rfl, Nat.le_refl _, fun _ _ _ => rfl⟩
theorem Nw.alloc {a w : World} (h : Nw a w) (o : Obj) : Nw a (w.alloc o) := h.trans (World.grownBy_alloc w o _)
theorem Nw.set {a w : World} (h : Nw a w) {p : Addr} (hp : a.heap.size ≤ p.block) (u : Value) : Nw a (w.setCell p u) :=
  ⟨h.os, h.tape, h.output, by simpa [World.setCell] using h.size, fun k hk hne => by rw [← h.block k hk hne]; simp only [World.setCell, Array.getElem?_modify]; rw [if_neg (by omega)]⟩
theorem Nw.cell {w w' : World} (h : Nw w w') {p : Addr} (hp : p.block < w.heap.size) : w'.cell? p = w.cell? p :=
  World.cell?_of_block (w := w) (h.block p.block hp (by simp))
theorem Nw.frozen {w w' : World} (h : Nw w w') {p : Addr} (hp : p.block < w.heap.size) : w'.frozen? p = w.frozen? p :=
  World.frozen?_of_block (w := w) (h.block p.block hp (by simp))

/-! ### widening -/
def wid (b : Nat) : Nat := FloatKind.f64.encode (FloatKind.f32.decode b)
theorem wid_lt (b : Nat) : wid b < 2 ^ 64 := Ieee.Format.write_lt _ _
abbrev Sm (b : Nat) : Prop := Flo.IsNum Ieee.single b
abbrev S (b : Nat) : Rat := Flo.V Ieee.single b

theorem fin_iff' (k : FloatKind) (x : Nat) : fin k x = true ↔ Flo.IsNum k.format x := by
  unfold fin Flo.IsNum FloatKind.decode
  cases k.format.read x <;> simp

theorem Sm_of {b : Nat} (h : fin .f32 b = true) : Sm b := (fin_iff' .f32 b).1 h
theorem single_bound {b : Nat} {s : Bool} {m : Nat} {p : Int} (h : Ieee.single.read b = .number s m p) : m < 16777216 ∧ -149 ≤ p ∧ p ≤ 104 := by
  obtain ⟨h1, h2, h3⟩ := Flo.read_bound Ieee.single (by decide) b s m p h
  have e1 : Ieee.single.leastPlace = -149 := by decide
  have e2 : (2 ^ Ieee.single.exponentBits : Nat) = 256 := by decide
  have e3 : 2 ^ (Ieee.single.fractionBits + 1) = 16777216 := by decide
  rw [e1] at h2 h3
  omega

theorem wid_read {b : Nat} {s : Bool} {m : Nat} {p : Int} (h : Ieee.single.read b = .number s m p) :
    ∃ m' p', Ieee.double.read (wid b) = .number s m' p' ∧ (m' : Rat) * Flo.pw p' = (m : Rat) * Flo.pw p := by
  obtain ⟨h1, h2, h3⟩ := single_bound h
  have hb : (m : Rat) * Flo.pw p < Flo.pw (Flo.top Ieee.double) := by
    rw [Flo.top_double]
    by_cases hm : m = 0
    · subst hm; have := Flo.pw_pos 1023; simp; grind
    · have a1 := (Flo.size_pw m p hm).2
      have a2 : m.log2 < 24 := (Nat.log2_lt hm).2 h1
      have a3 := Flo.pw_le (show p + (m.log2 : Int) + 1 ≤ 1023 by omega)
      grind
  obtain ⟨m', p', w1, -, -, w4⟩ := Flo.write_exact Ieee.double (by decide) s m p m p rfl (Nat.lt_trans h1 (by decide)) (by rw [Flo.lp_double]; omega) hb
  refine ⟨m', p', ?_, w4⟩
  unfold wid FloatKind.encode FloatKind.decode
  rw [show FloatKind.f32.format = Ieee.single from rfl, h]
  exact w1

theorem wid_num {b : Nat} (h : Sm b) : Flo.Nm (wid b) ∧ Flo.W (wid b) = S b := by
  obtain ⟨s, m, p, h⟩ := h
  obtain ⟨m', p', h1, h2⟩ := wid_read h
  refine ⟨⟨_, _, _, h1⟩, ?_⟩
  rw [show Flo.W (wid b) = _ from Flo.V_eq h1, show S b = _ from Flo.V_eq h]
  unfold Flo.val; rw [h2]

theorem fcv_up {b : Nat} (h : Sm b) (w : World) : fcv w .f32 b .f64 = wid b := by
  obtain ⟨s, m, p, h⟩ := h
  obtain ⟨m', p', h1, h2⟩ := wid_read h
  have hd : FloatKind.f32.decode b = .number s m p := h
  unfold fcv
  rw [if_neg (by decide), hd]
  have hw : wid b = FloatKind.f64.encode (.number s m p) := by unfold wid; rw [hd]
  rw [hw] at h1
  simp only
  rw [show FloatKind.f64.decode (FloatKind.f64.encode (.number s m p)) = _ from h1]
  simp [Ieee.Datum.isInfinity, hw]
theorem fcd_up {b : Nat} (h : Sm b) : fcd .f32 b .f64 = 0 := by
  obtain ⟨s, m, p, h⟩ := h
  obtain ⟨m', p', h1, h2⟩ := wid_read h
  have hd : FloatKind.f32.decode b = .number s m p := h
  unfold fcd
  rw [if_neg (by decide), hd]
  have hw : wid b = FloatKind.f64.encode (.number s m p) := by unfold wid; rw [hd]
  rw [hw] at h1
  simp only
  rw [show FloatKind.f64.decode (FloatKind.f64.encode (.number s m p)) = _ from h1]
  simp [Ieee.Datum.isInfinity]

theorem nan_fin {k : FloatKind} {b : Nat} (h : (k.decode b).isNaN = true) : fin k b = false := by
  unfold fin
  cases hd : k.decode b <;> rw [hd] at h <;> simp [Ieee.Datum.isNaN] at h ⊢

theorem fin_up (b : Nat) (w : World) : fin .f64 (fcv w .f32 b .f64) = fin .f32 b := by
  cases hd : FloatKind.f32.decode b with
  | number s m p =>
    have hs : Sm b := ⟨s, m, p, hd⟩
    rw [fcv_up hs]
    rw [(fin_iff' .f64 _).2 (wid_num hs).1, (fin_iff' .f32 _).2 hs]
  | infinity s =>
    have e : fin .f32 b = false := by unfold fin; rw [hd]
    rw [e]
    unfold fcv
    rw [if_neg (by decide), hd]
    simp only
    unfold fin
    have : FloatKind.f64.decode (FloatKind.f64.encode (.infinity s)) = .infinity s := by
      have e1 : ∀ k : FloatKind, k.decode (k.encode (.infinity s)) = k.format.read (k.format.word s k.format.infRung) := fun _ => rfl
      rw [e1, Flo.read_word_inf, if_neg (by decide)]
    rw [this]
  | nan s f =>
    have e : fin .f32 b = false := by unfold fin; rw [hd]
    rw [e]
    unfold fcv
    rw [if_neg (by decide), hd]
    exact nan_fin (nan_conv _ _ _)

/-! ### what the tests of a mode say -/
def leB (a b : Nat) : Bool := FloatKind.f64.format.order a b == some .lt || FloatKind.f64.format.order a b == some .eq
theorem leB_iff {a b : Nat} (ha : Flo.Nm a) (hb : Flo.Nm b) : leB a b = true ↔ Flo.W a ≤ Flo.W b := by
  have o := Flo.order_num Ieee.double a b ha hb
  unfold leB
  rw [show FloatKind.f64.format = Ieee.double from rfl, Bool.or_eq_true, beq_iff_eq, beq_iff_eq, o.1, o.2.1]
  show Flo.W a < Flo.W b ∨ Flo.W a = Flo.W b ↔ _
  constructor
  · intro h; rcases h with h | h <;> grind
  · intro h; grind

/-- the sum of the products of two parts with themselves -/
def sqr (x y : Nat) : Nat := (floatBits .add .f64 ((floatBits .mul .f64 x x).getD 0) ((floatBits .mul .f64 y y).getD 0)).getD 0
/-- a product of two finite numbers is valid: never NaN -/
theorem mul_some {x y : Nat} (hx : Flo.Nm x) (hy : Flo.Nm y) : ∃ r, floatBits .mul .f64 x y = some r := by
  obtain ⟨s, m, i, hx⟩ := hx
  obtain ⟨t, n, j, hy⟩ := hy
  show ∃ r, Ieee.double.mul x y = some r
  unfold Ieee.Format.mul
  rw [hx, hy]; exact ⟨_, rfl⟩

theorem single_abs {b : Nat} (h : Sm b) : Flo.Ab (S b) (Flo.pw 128) := by
  obtain ⟨s, m, p, h⟩ := h
  obtain ⟨h1, h2, h3⟩ := single_bound h
  rw [show S b = _ from Flo.V_eq h]
  have hp := Flo.pw_pos 128
  have hb : (m : Rat) * Flo.pw p ≤ Flo.pw 128 := by
    by_cases hm : m = 0
    · subst hm; simp; grind
    · have a1 := (Flo.size_pw m p hm).2
      have a2 : m.log2 < 24 := (Nat.log2_lt hm).2 h1
      have a3 := Flo.pw_le (show p + (m.log2 : Int) + 1 ≤ 128 by omega)
      grind
  have h0 : 0 ≤ (m : Rat) * Flo.pw p := by
    have a1 : (0 : Rat) ≤ m := by exact_mod_cast Nat.zero_le m
    exact Rat.mul_nonneg a1 (Rat.le_of_lt (Flo.pw_pos p))
  unfold Flo.val Flo.Ab; cases s <;> simp <;> grind

/-- the squares' sum of widened parts: near the exact one -/
theorem sqr_num {x y : Nat} (hx : Sm x) (hy : Sm y) :
    ∃ a b, floatBits .mul .f64 (wid x) (wid x) = some a ∧ floatBits .mul .f64 (wid y) (wid y) = some b ∧ floatBits .add .f64 a b = some (sqr (wid x) (wid y)) ∧ Flo.Nm (sqr (wid x) (wid y)) ∧
      Flo.Ab (Flo.W (sqr (wid x) (wid y)) - (S x * S x + S y * S y)) ((S x * S x + S y * S y) * (4 * Flo.u) + 6 * Flo.et) := by
  obtain ⟨nx, vx⟩ := wid_num hx
  obtain ⟨ny, vy⟩ := wid_num hy
  have ax := single_abs hx
  have ay := single_abs hy
  have qx := ax.mul ax
  have qy := ay.mul ay
  rw [← Flo.pw_add] at qx qy
  have sq : ∀ q : Rat, 0 ≤ q * q := fun q => by
    rcases Rat.le_total (a := 0) (b := q) with h | h
    · exact Rat.mul_nonneg h h
    · have := Rat.mul_nonneg (show 0 ≤ -q by grind) (show 0 ≤ -q by grind); grind
  have sx := sq (S x)
  have sy := sq (S y)
  have e258 : Flo.pw 258 = 4 * Flo.pw (128 + 128) := by rw [show (258 : Int) = 2 + (128 + 128) from rfl, Flo.pw_add, show Flo.pw 2 = 4 from Flo.pw_nat 2]
  have l1 : Flo.pw 258 < Flo.pw 1023 := Flo.pw_lt (by omega)
  obtain ⟨a, a1, a2, a3⟩ := Flo.d_mul (wid x) (wid x) nx nx (S x * S x) (by rw [vx]; exact ⟨by grind, by grind⟩) (by unfold Flo.Ab at qx; have := Flo.pw_pos (128 + 128); grind)
  obtain ⟨b, b1, b2, b3⟩ := Flo.d_mul (wid y) (wid y) ny ny (S y * S y) (by rw [vy]; exact ⟨by grind, by grind⟩) (by unfold Flo.Ab at qy; have := Flo.pw_pos (128 + 128); grind)
  rw [vx] at a3
  rw [vy] at b3
  have u1 := Flo.u_le
  have u0 := Flo.u_pos
  have e0 := Flo.et_pos
  have eu : Flo.et ≤ 1 / 1048576 := by
    have : Flo.et ≤ Flo.u := Flo.pw_le (by omega)
    grind
  have hux := Rat.mul_le_mul_of_nonneg_left u1 sx
  have huy := Rat.mul_le_mul_of_nonneg_left u1 sy
  have hux0 := Rat.mul_nonneg sx (Rat.le_of_lt u0)
  have huy0 := Rat.mul_nonneg sy (Rat.le_of_lt u0)
  have one_le : 1 ≤ Flo.pw (128 + 128) := by rw [← Flo.pw_zero]; exact Flo.pw_le (by omega)
  have hs : Flo.Ab (Flo.W a + Flo.W b) ((S x * S x + S y * S y) * (1 + Flo.u) + 2 * Flo.et) := by
    unfold Flo.Ab at *; constructor <;> grind
  obtain ⟨c, c1, c2, c3⟩ := Flo.d_add a b a2 b2 _ hs (by unfold Flo.Ab at qx qy; grind)
  have hc : sqr (wid x) (wid y) = c := by unfold sqr; rw [a1, b1]; simp [c1]
  refine ⟨a, b, a1, b1, by rw [hc]; exact c1, by rw [hc]; exact c2, ?_⟩
  rw [hc]
  have huu : (S x * S x + S y * S y) * Flo.u * Flo.u ≤ (S x * S x + S y * S y) * Flo.u := by
    have := Rat.mul_le_mul_of_nonneg_left (show Flo.u ≤ 1 by grind) (show 0 ≤ (S x * S x + S y * S y) * Flo.u by grind)
    grind
  have heu : Flo.et * Flo.u ≤ Flo.et := by
    have := Rat.mul_le_mul_of_nonneg_left (show Flo.u ≤ 1 by grind) (Rat.le_of_lt e0)
    grind
  unfold Flo.Ab at *; constructor <;> grind

/-- is a mode with these parts valid? -/
def modeB (pr pi gr gi : Nat) (al : Nat → Nat) : Bool :=
  ((fin .f32 pr && fin .f32 pi) && (fin .f32 gr && fin .f32 gi)) && leB (sqr (wid pr) (wid pi)) 4607182418800017408 && (leB (al (wid gr)) 4652218415073722368 && leB (al (wid gi)) 4652218415073722368)

end Go.Proofs.YtjmignhcfmdcaaaDoor
