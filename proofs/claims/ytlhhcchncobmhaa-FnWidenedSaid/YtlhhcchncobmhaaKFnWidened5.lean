/- Texts of a proof, put together: NarE.
   Conditions: those that each statement names. -/
import Derived.Test.YtlhhcchncobmhaaKFnWidened4
import Derived.BigQuiet
/- The walk of NarrowError of valid wide modes: at most 2^-24, and 0 of what was widened.
   Conditions: those that each statement names. -/
namespace Go.Proofs.Ytlhhcchncobmhaa
set_option linter.unusedSimpArgs false
set_option linter.unusedVariables false
open Go Go.RowKit

theorem run_max_num {P : Program} (ts : Array TypeId) (t : TypeId) (x y : Nat) (hx : Flo.Nm x) (hy : Flo.Nm y) : ∃ z, (∀ w, (Builtin.max_ ts t #[.float .f64 x, .float .f64 y]).run P w = .ok (.float .f64 z) w) ∧ (z = x ∨ z = y) := by
  have o := Flo.order_num Ieee.double x y hx hy
  cases h : FloatKind.f64.format.order x y with
  | none =>
    exfalso
    rw [show FloatKind.f64.format = Ieee.double from rfl] at h
    rw [h] at o
    obtain ⟨o1, o2, o3⟩ := o
    rcases le_tot (Flo.V Ieee.double x) (Flo.V Ieee.double y) with g | g
    · rcases Rat.le_iff_lt_or_eq.1 g with g | g
      · cases o1.2 g
      · cases o2.2 g
    · rcases Rat.le_iff_lt_or_eq.1 g with g | g
      · cases o3.2 g
      · cases o2.2 g.symm
  | some r =>
    cases r with
    | lt => exact ⟨y, fun w => by simp [Builtin.max_, Builtin.max2, h], .inr rfl⟩
    | gt => exact ⟨x, fun w => by simp [Builtin.max_, Builtin.max2, h], .inl rfl⟩
    | eq =>
      cases hn : (FloatKind.f64.decode x).neg with
      | true => exact ⟨y, fun w => by simp [Builtin.max_, Builtin.max2, h, hn], .inr rfl⟩
      | false => exact ⟨x, fun w => by simp [Builtin.max_, Builtin.max2, h, hn], .inl rfl⟩

/-- how a part is moved -/
theorem part_moved (x : Nat) (hx : Flo.Nm x) (h : Flo.Ab (Flo.W x) 1) : ∃ r, (∀ w, fcv w .f64 x .f32 = Flo.nar x) ∧ fcd .f64 x .f32 = 0 ∧ Sm (Flo.nar x) ∧ floatBits .sub .f64 x (wid (Flo.nar x)) = some r ∧ Flo.Nm r ∧ Flo.Ab (Flo.W r) (Flo.pw (-25)) ∧ (wid (Flo.nar x) = x → Flo.W r = 0) := by
  have l127 : Flo.pw 0 < Flo.pw 127 := Flo.pw_lt (by omega)
  rw [Flo.pw_zero] at l127
  obtain ⟨h1, h2, h3, -⟩ := Flo.narrow_ok x hx 1 h l127
  have h4 := Flo.narrow_one x hx h
  obtain ⟨nw, vw⟩ := wid_num h3
  obtain ⟨r, r1, r2, r3⟩ := Flo.sub_pw x (wid (Flo.nar x)) hx nw (-25) (by rw [vw]; have := h4.neg; exact this.eq (by grind)) (by omega) (by omega)
  refine ⟨r, h1, h2, h3, r1, r2, r3, fun e => ?_⟩
  rw [e] at r1
  obtain ⟨s, m, p, hr⟩ := hx
  obtain ⟨b1, b2, b3⟩ := Flo.read_bound Ieee.double (by decide) x s m p hr
  rw [show Ieee.double.fractionBits = 52 from by decide] at b1
  rw [show Ieee.double.leastPlace = -1074 from by decide] at b2
  have hp : p ≤ 960 ∨ m = 0 := by
    rcases Int.lt_or_le 960 p with g | g
    · right
      rw [show Flo.W x = _ from Flo.V_eq hr] at h
      have hm := Flo.mag_of h
      rcases Nat.eq_zero_or_pos m with g0 | g0
      · exact g0
      · exfalso
        have := (Flo.size_pw m p (by omega)).1
        have l := Flo.pw_lt (show (0 : Int) < p + m.log2 by omega)
        rw [Flo.pw_zero] at l
        grind
    · exact .inl g
  rcases hp with hp | hp
  · have hD : Flo.Dy p (if s then -(m : Int) else (m : Int)) x := ⟨⟨s, m, p, hr⟩, by
      rw [show Flo.W x = _ from Flo.V_eq hr]
      have ec : (((m : Nat) : Int) : Rat) = (m : Rat) := by exact_mod_cast rfl
      unfold Flo.val
      cases s
      · simp only [Bool.false_eq_true, if_false]; rw [ec]; grind
      · simp only [if_true]; push_cast; grind⟩
    obtain ⟨r', q1, q2⟩ := Flo.dy_sub hD hD (by simp) (by omega) hp
    rw [r1] at q1
    cases q1
    rw [q2.2]
    simp
  · have hD : Flo.Dy 0 0 x := ⟨⟨s, m, p, hr⟩, by
      rw [show Flo.W x = _ from Flo.V_eq hr, hp, Flo.val_zero]
      simp⟩
    obtain ⟨r', q1, q2⟩ := Flo.dy_sub hD hD (by simp) (by omega) (by omega)
    rw [r1] at q1
    cases q1
    rw [q2.2]
    simp
structure MovedW (m : W4) (r s t : Nat) : Prop where
  c1 : ∀ w, fcv w .f64 m.a .f32 = Flo.nar m.a
  c2 : ∀ w, fcv w .f64 m.b .f32 = Flo.nar m.b
  d1 : fcd .f64 m.a .f32 = 0
  d2 : fcd .f64 m.b .f32 = 0
  n1 : Sm (Flo.nar m.a)
  n2 : Sm (Flo.nar m.b)
  s1 : floatBits .sub .f64 m.a (wid (Flo.nar m.a)) = some r
  s2 : floatBits .sub .f64 m.b (wid (Flo.nar m.b)) = some s
  s3 : floatBits .add .f64 (r % signBit) (s % signBit) = some t
  nt : Flo.Nm t
  t0 : 0 ≤ Flo.W t
  t1 : Flo.W t ≤ Flo.pw (-24)
  tz : wid (Flo.nar m.a) = m.a → wid (Flo.nar m.b) = m.b → Flo.W t = 0
theorem moved_ok (m : W4) (h : wideB m = true) : ∃ r s t, MovedW m r s t := by
  unfold wideB at h
  rw [Bool.and_eq_true, Bool.and_eq_true, Bool.and_eq_true, Bool.and_eq_true] at h
  obtain ⟨⟨⟨⟨f1, f2⟩, -⟩, h5⟩, -⟩ := h
  have na := (fin_iff .f64 m.a).1 f1
  have nb := (fin_iff .f64 m.b).1 f2
  obtain ⟨pa, pb⟩ := part_one na nb h5
  obtain ⟨r, a1, a2, a3, a4, a5, a6, a7⟩ := part_moved m.a na pa
  obtain ⟨s, b1, b2, b3, b4, b5, b6, b7⟩ := part_moved m.b nb pb
  have lr := labs_num r (floatBits_wf' a4) a5
  have ls := labs_num s (floatBits_wf' b4) b5
  have r0 := ra_nonneg (Flo.W r)
  have s0 := ra_nonneg (Flo.W s)
  have ra1 := ra_le a6
  have sa1 := ra_le b6
  have p24 : Flo.pw (-24) = 2 * Flo.pw (-25) := by rw [← Flo.pw_succ]; rfl
  obtain ⟨t, t1, t2, t3⟩ := Flo.add_pw (labs r) (labs s) lr.1 ls.1 (-24) (by rw [lr.2, ls.2, p24]; unfold Flo.Ab; grind) (by omega) (by omega)
  have hb : Flo.W (labs r) + Flo.W (labs s) < Flo.pw 1023 := by
    rw [lr.2, ls.2]
    have l := Flo.pw_lt (show (-24 : Int) < 1023 by omega)
    grind
  obtain ⟨t', q1, q2, q3⟩ := Flo.add_ge (labs r) (labs s) lr.1 ls.1 (by rw [lr.2]; exact r0) (by rw [ls.2]; exact s0) hb
  rw [t1] at q1
  cases q1
  refine ⟨r, s, t, a1, b1, a2, b2, a3, b3, a4, b4, by rw [labs_mod r (floatBits_wf' a4) a5, labs_mod s (floatBits_wf' b4) b5]; exact t1, t2, by rw [lr.2] at q3; grind, t3.2, fun e1 e2 => ?_⟩
  have z1 := a7 e1
  have z2 := b7 e2
  have hra : ra (0 : Rat) = 0 := by unfold ra; rw [if_neg (by decide)]
  have D1 : Flo.Dy 0 0 (labs r) := ⟨lr.1, by rw [lr.2, z1, hra]; simp⟩
  have D2 : Flo.Dy 0 0 (labs s) := ⟨ls.1, by rw [ls.2, z2, hra]; simp⟩
  obtain ⟨t', q1, q2⟩ := Flo.dy_add D1 D2 (by simp) (by omega) (by omega)
  rw [t1] at q1
  cases q1
  rw [q2.2]
  simp

def ErrI (ws : List W4) (n : Nat) (w : World) (y i : Value) (wr : World) : Prop :=
  ∃ k g : Nat, k ≤ n ∧ i = .int .i64 (k : Int) ∧ y = .float .f64 g ∧ Flo.Nm g ∧ 0 ≤ Flo.W g ∧ Flo.W g ≤ Flo.pw (-24) ∧ ((∀ m ∈ ws, wid (Flo.nar m.a) = m.a ∧ wid (Flo.nar m.b) = m.b) → Flo.W g = 0) ∧ Nw w wr
def ErrP (ws : List W4) (w : World) (e : Ending) (w' : World) : Prop :=
  ∃ g : Nat, e = .returned (.tuple #[.float .f64 g, .bool true]) ∧ Flo.Nm g ∧ 0 ≤ Flo.W g ∧ Flo.W g ≤ Flo.pw (-24) ∧ ((∀ m ∈ ws, wid (Flo.nar m.a) = m.a ∧ wid (Flo.nar m.b) = m.b) → Flo.W g = 0) ∧ Nw w w'

set_option maxHeartbeats 1600000 in
theorem narrowError_ok (ws : List W4) (hb : ∀ m ∈ ws, m.bits) (ha : areB ws = true) (n bm : Nat) (v : Value) (hq : ws.length = n) (w : World)
    (hm : w.ownsRow bm 124 2 v n (cellsW ws)) :
    Calls Try.prog 45 #[v] w (ErrP ws w) := by
  obtain ⟨va, vc, rfl⟩ := own_shape' hm
  have h16 := ((areB_iff ws).1 ha).1
  have Hall := Lib.hid ((areB_iff ws).1 ha).2
  have Ha := Lib.hid ha
  have Hm := Lib.hid hm
  have Hq := Lib.hid hq
  have Hb := Lib.hid hb
  have hn16 : n ≤ 16 := by omega
  clear hm hq ha hb h16
  go_enter Try.func45, Try.ntmps45
  go_wp2_with fail
  refine (implAreWide_any ws Hb.out n bm _ Hq.out (by omega) _ Hm.out).mono ?_
  rintro e w1 ⟨rfl, n1⟩
  rw [Ha.out]
  have Hn1 := Lib.hid n1
  have Hm1 := Lib.hid (own_nw Hm.out n1)
  clear n1
  go_wp2_with fail
  go_loopw [4, 13] (fun y i wr => ErrI ws n w1 y i wr) (fun _ i _ => n - (intOf i).toNat)
  case atStart => exact ⟨0, 0, by omega, rfl, rfl, zero_num.1, by rw [zero_num.2]; exact Rat.le_refl, by rw [zero_num.2]; exact Rat.le_of_lt (Flo.pw_pos _), fun _ => zero_num.2, Nw.refl _⟩
  case round =>
    obtain ⟨k, g, hk, rfl, rfl, ng, g0, g1, gz, hnw⟩ := hrel
    have Hg := Lib.hid (And.intro ng (And.intro g0 (And.intro g1 gz)))
    have Hnw := Lib.hid hnw
    clear ng g0 g1 gz hnw
    by_cases hlt : k < n
    · obtain ⟨m, hmk⟩ : ∃ m, ws[k]? = some m := ⟨ws[k]'(by rw [Hq.out]; exact hlt), List.getElem?_eq_getElem _⟩
      have Hmr := Lib.hid (own_nw Hm1.out Hnw.out)
      obtain ⟨ga, cap, hv, hcap, hmax, hgs, e1, e2⟩ := own_wide Hmr.out hmk Hq.out.symm
      cases hv
      unfold maxLen at hmax
      obtain ⟨r, s, t, mv⟩ := moved_ok m (Hall.out m (List.mem_of_getElem? hmk))
      obtain ⟨z, hz, hzz⟩ := run_max_num (P := Try.prog) #[49, 49] 49 g t Hg.out.1 mv.nt
      have Mv := Lib.hid mv
      have Hz := Lib.hid hzz
      have Hmem := Lib.hid (List.mem_of_getElem? hmk)
      clear hmk hzz mv
      have t1 : ∀ w, fres w .sub .f64 m.a (wid (Flo.nar m.a)) = r := fun w => by unfold fres; rw [Mv.out.s1]
      have t2 : ∀ w, fres w .sub .f64 m.b (wid (Flo.nar m.b)) = s := fun w => by unfold fres; rw [Mv.out.s2]
      have d1 : fdr .sub .f64 m.a (wid (Flo.nar m.a)) = 0 := by unfold fdr; rw [Mv.out.s1]; rfl
      have d2 : fdr .sub .f64 m.b (wid (Flo.nar m.b)) = 0 := by unfold fdr; rw [Mv.out.s2]; rfl
      have hrun : ∀ w, (binOp .sub 41 (.complex .f64 m.a m.b) (.complex .f64 (wid (Flo.nar m.a)) (wid (Flo.nar m.b)))).run Try.prog w = .ok (.complex .f64 r s) w := fun w => by
        rw [run_cx_sub, d1, d2, t1, t2]; rfl
      have C1 := Lib.hid (fun w => implNarrow_ok m.a m.b (Flo.nar m.a) (Flo.nar m.b) w Mv.out.c1 Mv.out.c2 Mv.out.d1 Mv.out.d2)
      have C2 := Lib.hid (fun w => implWiden_fin (Flo.nar m.a) (Flo.nar m.b) w Mv.out.n1 Mv.out.n2)
      have C3 := Lib.hid (fun w => (implSize_any r s w (floatBits_wf' Mv.out.s1) (floatBits_wf' Mv.out.s2)).mono fun e w' h => (show e = .returned (.float .f64 t) ∧ ∃ n, w' = w.drewN n from ⟨by rw [h.1]; unfold fres; rw [Mv.out.s3], h.2⟩))
      clear t1 t2 d1 d2
      have Hw4 := Lib.hid (Hnw.out.alloc (.cells #[.complex .f64 m.a m.b, .complex .f64 m.c m.d] 124 (0, 0)))
      go_wp2_with fail
      go_quiet (first
        | (go_at_call 85; exact quiet_eq (C1.out _))
        | (go_at_call 79; exact quiet_eq (C2.out _))
        | (go_at_call 74; exact Calls.quiet_of (C3.out _)))
      go_wp2_with fail
      go_roundw
      case rel =>
        refine ⟨k + 1, z, by omega, by rw [show ((k + 1 : Nat) : Int) = (k : Int) + 1 from by omega], rfl, ?_, ?_, ?_, ?_, Hw4.out.draw _⟩
        · rcases Hz.out with h | h <;> rw [h]
          · exact Hg.out.1
          · exact Mv.out.nt
        · rcases Hz.out with h | h <;> rw [h]
          · exact Hg.out.2.1
          · exact Mv.out.t0
        · rcases Hz.out with h | h <;> rw [h]
          · exact Hg.out.2.2.1
          · exact Mv.out.t1
        · intro hall
          rcases Hz.out with h | h <;> rw [h]
          · exact Hg.out.2.2.2 hall
          · exact Mv.out.tz (hall m Hmem.out).1 (hall m Hmem.out).2
      case measure => simp only [intOf]; omega
    · go_wp2_with fail
      go_ret2
      exact ⟨g, rfl, Hg.out.1, Hg.out.2.1, Hg.out.2.2.1, Hg.out.2.2.2, Hn1.out.trans Hnw.out⟩

end Go.Proofs.Ytlhhcchncobmhaa
