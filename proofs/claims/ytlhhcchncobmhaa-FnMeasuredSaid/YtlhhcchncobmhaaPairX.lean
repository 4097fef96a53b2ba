/- Plain: what the law FnPair needs of its numbers, all together.
   Conditions: those that each statement names. -/
import Derived.Test.YtlhhcchncobmhaaPairV
namespace Go.Proofs.Ytlhhcchncobmhaa
set_option linter.unusedSimpArgs false
set_option linter.unusedVariables false
open Go Go.RowKit

theorem num_16d : Flo.Nm 4625196817309499392 ∧ Flo.W 4625196817309499392 = 16 := by
  have h := Flo.int_double 16 (by decide)
  rw [show floatOfInt .f64 16 = 4625196817309499392 from by decide +kernel] at h
  exact ⟨h.1, by rw [h.2]; rfl⟩
theorem num_4d : Flo.Nm 4616189618054758400 ∧ Flo.W 4616189618054758400 = 4 := by
  have h := Flo.int_double 4 (by decide)
  rw [show floatOfInt .f64 4 = 4616189618054758400 from by decide +kernel] at h
  exact ⟨h.1, by rw [h.2]; rfl⟩
/-- a quarter of a start -/
theorem quarter (m : Int × Int) (z : Nat × Nat) (h : DyC (-4) m z) (hm : Small2 m 64) :
    ∃ e f, divD z.1 z.2 4616189618054758400 0 = some (e, f) ∧ Flo.Nm e ∧ Flo.Nm f ∧ Flo.Ab (Flo.W e) (65 / 64) ∧ Flo.Ab (Flo.W f) (65 / 64) := by
  have e6 : Flo.pw (-4) = 4 * Flo.pw (-6) := by rw [show (-4 : Int) = 2 + -6 from rfl, Flo.pw_add, show Flo.pw 2 = 4 from Flo.pw_nat 2]
  have hN : DyC (0 + -6) (gmz (4, 0) m) z := by
    refine ⟨⟨h.1.1, ?_⟩, ⟨h.2.1, ?_⟩⟩
    · rw [h.1.2, e6]; unfold gmz; push_cast; grind
    · rw [h.2.2, e6]; unfold gmz; push_cast; grind
  have hD : DyC 0 (4, 0) (4616189618054758400, 0) := by
    refine ⟨⟨num_4d.1, ?_⟩, ⟨zero_num.1, ?_⟩⟩
    · show Flo.W 4616189618054758400 = ((4 : Int) : Rat) * Flo.pw 0
      rw [num_4d.2, Flo.pw_zero, show ((4 : Int) : Rat) = 4 from rfl]; grind
    · show Flo.W 0 = ((0 : Int) : Rat) * Flo.pw 0
      rw [zero_num.2, Flo.pw_zero, show ((0 : Int) : Rat) = 0 from rfl]; grind
  obtain ⟨e, f, h1, h2, h3, h4, h5⟩ := quo_near 0 (-6) _ (4, 0) m z _ (by omega) (by omega) (by omega) (by omega) hN hD rfl (by decide) ⟨by decide, by decide⟩ (by have := hm.1; simp; omega) (by have := hm.2; simp; omega)
  have u1 := Flo.u_le
  have u0 := Flo.u_pos
  have p6 : Flo.pw (-6) * 64 = 1 := by
    have := Flo.pw_neg_mul 6
    rw [show Flo.pw 6 = 64 from Flo.pw_nat 6] at this; exact this
  have b : ∀ i : Int, i.natAbs ≤ 64 → Flo.Ab ((i : Rat) * Flo.pw (-6)) 1 := by
    intro i hi
    have a1 : (i : Rat) ≤ 64 := by
      have : (i : Rat) ≤ ((64 : Int) : Rat) := Rat.intCast_le_intCast.2 (by omega)
      exact this
    have a2 : -64 ≤ (i : Rat) := by
      have : ((-64 : Int) : Rat) ≤ (i : Rat) := Rat.intCast_le_intCast.2 (by omega)
      exact this
    have p := Flo.pw_pos (-6)
    have c1 := Rat.mul_le_mul_of_nonneg_right a1 (Rat.le_of_lt p)
    have c2 := Rat.mul_le_mul_of_nonneg_right a2 (Rat.le_of_lt p)
    constructor <;> grind
  exact ⟨e, f, h1, h2, h3, ((h4.add (b _ hm.1)).eq (show Flo.W e - (m.1 : Rat) * Flo.pw (-6) + (m.1 : Rat) * Flo.pw (-6) = Flo.W e by grind)).mono (by grind),
    ((h5.add (b _ hm.2)).eq (show Flo.W f - (m.2 : Rat) * Flo.pw (-6) + (m.2 : Rat) * Flo.pw (-6) = Flo.W f by grind)).mono (by grind)⟩
/-- a part, times 16, cut to an integer -/
theorem part_cut (e : Nat) (he : Flo.Nm e) (hb : Flo.Ab (Flo.W e) (65 / 64)) : ∃ r i, floatBits .mul .f64 e 4625196817309499392 = some r ∧ floatToIntVal .f64 r .i64 = some i ∧ i.natAbs ≤ 16 := by
  have hbig : (20 : Rat) < Flo.pw 1023 := by
    have e1 : Flo.pw 6 < Flo.pw 1023 := Flo.pw_lt (by omega)
    rw [show Flo.pw 6 = 64 from Flo.pw_nat 6] at e1
    grind
  have u1 := Flo.u_le
  have u0 := Flo.u_pos
  have het : Flo.et ≤ Flo.u := Flo.pw_le (by omega)
  have h16 : Flo.Ab (Flo.W 4625196817309499392) 16 := by rw [num_16d.2]; constructor <;> grind
  obtain ⟨r, h1, h2, h3⟩ := Flo.d_mul e _ he num_16d.1 (65 / 4) ((hb.mul h16).mono (by grind)) (by grind)
  have hB : Flo.Ab (Flo.W r) (67 / 4) := ((h3.add ((hb.mul h16).mono (show (65 : Rat) / 64 * 16 ≤ 65 / 4 by grind))).eq (show Flo.W r - Flo.W e * Flo.W 4625196817309499392 + Flo.W e * Flo.W 4625196817309499392 = Flo.W r by grind)).mono (by grind)
  obtain ⟨i, i1, i2⟩ := Flo.cut_17 r h2 hB
  exact ⟨r, i, h1, i1, i2⟩

theorem DyC.eq {e : Int} {m : Int × Int} {x z : Nat × Nat} (h : DyC e m z) (hx : fabC x = fabC z) : x = z := by
  rw [h.fab] at hx
  exact Prod.ext (fab_some_eq (congrArg Prod.fst hx)) (fab_some_eq (congrArg Prod.snd hx))
/-- four numbers of a ringing, exact -/
theorem ring4 (a p : Int × Int) (A P : Nat × Nat) (hA : DyC (-4) a A) (hP : DyC (-4) p P) (sa : Small2 a 64) (sp : Small2 p 16) (xs : List (Nat × Nat)) (hl : xs.length = 4) (hr : Ringing (fabC P) (fabC A) xs) :
    ∃ X1 X2 X3, xs = [A, X1, X2, X3] ∧ DyC (-8) (gmz a p) X1 ∧ DyC (-12) (gmz (gmz a p) p) X2 ∧ DyC (-16) (gmz (gmz (gmz a p) p) p) X3 := by
  have b1 := gm_le a p 64 16 sa sp
  have s1 : Small2 (gmz a p) 2048 := ⟨by omega, by omega⟩
  have b2 := gm_le (gmz a p) p 2048 16 s1 sp
  have s2 : Small2 (gmz (gmz a p) p) 65536 := ⟨by omega, by omega⟩
  obtain ⟨X1, x1, d1⟩ := dyC_mul hA hP 64 16 sa sp (by omega) (by omega) (by omega)
  obtain ⟨X2, x2, d2⟩ := dyC_mul d1 hP 2048 16 s1 sp (by omega) (by omega) (by omega)
  obtain ⟨X3, x3, d3⟩ := dyC_mul d2 hP 65536 16 s2 sp (by omega) (by omega) (by omega)
  obtain ⟨y0, y1, y2, y3, rfl⟩ : ∃ y0 y1 y2 y3, xs = [y0, y1, y2, y3] := by
    match xs, hl with
    | [a, b, c, d], _ => exact ⟨a, b, c, d, rfl⟩
  have r0 := (hr 0 y0 rfl).1
  have r1 := (hr 1 y1 rfl).1
  have r2 := (hr 2 y2 rfl).1
  have r3 := (hr 3 y3 rfl).1
  simp only [ringC] at r0 r1 r2 r3
  have e0 := hA.eq r0
  rw [x1, ← d1.fab] at r1
  have e1 := d1.eq r1
  rw [x1, ← d1.fab, x2, ← d2.fab] at r2
  have e2 := d2.eq r2
  rw [x1, ← d1.fab, x2, ← d2.fab, x3, ← d3.fab] at r3
  have e3 := d3.eq r3
  subst e0 e1 e2 e3
  exact ⟨_, _, _, rfl, d1, d2, d3⟩

/-- a difference of products, exact -/
def CrossOk (a b c d R : Nat × Nat) : Prop := ∃ P Q : Nat × Nat, mulC (fabC a) (fabC b) = (some P.1, some P.2) ∧ mulC (fabC c) (fabC d) = (some Q.1, some Q.2) ∧ floatBits .sub .f64 P.1 Q.1 = some R.1 ∧ floatBits .sub .f64 P.2 Q.2 = some R.2
def AddOk (a b R : Nat × Nat) : Prop := floatBits .add .f64 a.1 b.1 = some R.1 ∧ floatBits .add .f64 a.2 b.2 = some R.2
theorem gs_small {x y : Int × Int} {B : Nat} (h1 : Small2 x B) (h2 : Small2 y B) : Small2 (gs x y) (2 * B) := by
  have a := h1.1; have b := h1.2; have c := h2.1; have d := h2.2
  unfold gs
  exact ⟨by show (x.1 - y.1).natAbs ≤ 2 * B; omega, by show (x.2 - y.2).natAbs ≤ 2 * B; omega⟩
theorem ga_small {x y : Int × Int} {B : Nat} (h1 : Small2 x B) (h2 : Small2 y B) : Small2 (ga x y) (2 * B) := by
  have a := h1.1; have b := h1.2; have c := h2.1; have d := h2.2
  unfold ga
  exact ⟨by show (x.1 + y.1).natAbs ≤ 2 * B; omega, by show (x.2 + y.2).natAbs ≤ 2 * B; omega⟩
theorem cross_dy {e f g h k : Int} {m n r s : Int × Int} {a b c d : Nat × Nat} (ha : DyC e m a) (hb : DyC f n b) (hc : DyC g r c) (hd : DyC h s d) (h1 : e + f = k) (h2 : g + h = k) (B C B' C' : Nat) (s1 : Small2 m B) (s2 : Small2 n C) (s3 : Small2 r B') (s4 : Small2 s C') (hk : -1000 ≤ k) (hk2 : k ≤ 900)
    (hB : B * C = B' * C') (hlt : 4 * (B * C) < 9007199254740992) : ∃ R, CrossOk a b c d R ∧ DyC k (gs (gmz m n) (gmz r s)) R ∧ Wz R ∧ Small2 (gs (gmz m n) (gmz r s)) (4 * (B * C)) := by
  obtain ⟨P, p1, p2⟩ := dyC_mul ha hb B C s1 s2 (by omega) (by omega) (by omega)
  obtain ⟨Q, q1, q2⟩ := dyC_mul hc hd B' C' s3 s4 (by omega) (by omega) (by omega)
  have b1 := gm_le m n B C s1 s2
  have b2 := gm_le r s B' C' s3 s4
  rw [h1] at p2
  rw [h2] at q2
  have hs := gs_small (x := gmz m n) (y := gmz r s) (B := 2 * (B * C)) ⟨by omega, by omega⟩ ⟨by omega, by omega⟩
  have hs' : Small2 (gs (gmz m n) (gmz r s)) (4 * (B * C)) := ⟨by have := hs.1; omega, by have := hs.2; omega⟩
  obtain ⟨R, r1, r2, r3⟩ := dyC_sub p2 q2 (4 * (B * C)) hs' (by omega) (by omega) (by omega)
  exact ⟨R, ⟨P, Q, p1, q1, r1, r2⟩, r3, ⟨floatBits_wf' r1, floatBits_wf' r2⟩, hs'⟩

structure PairOk (p q : Int × Int) (Z0 Z1 Z2 Z3 D S T s t : Nat × Nat) : Prop where
  cd : CrossOk Z1 Z1 Z0 Z2 D
  cs : CrossOk Z1 Z2 Z0 Z3 S
  ct : CrossOk Z2 Z2 Z1 Z3 T
  wd : Wz D
  ws : Wz S
  wt : Wz T
  qs : divD S.1 S.2 D.1 D.2 = some (s.1, s.2)
  qt : divD T.1 T.2 D.1 D.2 = some (t.1, t.2)
  ns : Flo.Nm s.1 ∧ Flo.Nm s.2
  nt : Flo.Nm t.1 ∧ Flo.Nm t.2
  as1 : Flo.Ab (Flo.W s.1 - ((ga p q).1 : Rat) * Flo.pw (-4)) (992 * Flo.u)
  as2 : Flo.Ab (Flo.W s.2 - ((ga p q).2 : Rat) * Flo.pw (-4)) (992 * Flo.u)
  at1 : Flo.Ab (Flo.W t.1 - ((gmz p q).1 : Rat) * Flo.pw (-8)) (992 * Flo.u)
  at2 : Flo.Ab (Flo.W t.2 - ((gmz p q).2 : Rat) * Flo.pw (-8)) (992 * Flo.u)

theorem pair_exact (a b p q : Int × Int) (A B X1 X2 X3 Y1 Y2 Y3 : Nat × Nat) (hA : DyC (-4) a A) (hB : DyC (-4) b B) (x1 : DyC (-8) (gmz a p) X1) (x2 : DyC (-12) (gmz (gmz a p) p) X2) (x3 : DyC (-16) (gmz (gmz (gmz a p) p) p) X3)
    (y1 : DyC (-8) (gmz b q) Y1) (y2 : DyC (-12) (gmz (gmz b q) q) Y2) (y3 : DyC (-16) (gmz (gmz (gmz b q) q) q) Y3) (sa : Small2 a 64) (sb : Small2 b 64) (sp : Small2 p 16) (sq : Small2 q 16) (na : a ≠ (0, 0)) (nb : b ≠ (0, 0)) (npq : p ≠ q) :
    ∃ Z0 Z1 Z2 Z3 D S T s t, AddOk A B Z0 ∧ AddOk X1 Y1 Z1 ∧ AddOk X2 Y2 Z2 ∧ AddOk X3 Y3 Z3 ∧ PairOk p q Z0 Z1 Z2 Z3 D S T s t := by
  have a1 := gm_le a p 64 16 sa sp
  have s1 : Small2 (gmz a p) 2048 := ⟨by omega, by omega⟩
  have a2 := gm_le (gmz a p) p 2048 16 s1 sp
  have s2 : Small2 (gmz (gmz a p) p) 65536 := ⟨by omega, by omega⟩
  have a3 := gm_le (gmz (gmz a p) p) p 65536 16 s2 sp
  have s3 : Small2 (gmz (gmz (gmz a p) p) p) 2097152 := ⟨by omega, by omega⟩
  have b1 := gm_le b q 64 16 sb sq
  have t1 : Small2 (gmz b q) 2048 := ⟨by omega, by omega⟩
  have b2 := gm_le (gmz b q) q 2048 16 t1 sq
  have t2 : Small2 (gmz (gmz b q) q) 65536 := ⟨by omega, by omega⟩
  have b3 := gm_le (gmz (gmz b q) q) q 65536 16 t2 sq
  have t3 : Small2 (gmz (gmz (gmz b q) q) q) 2097152 := ⟨by omega, by omega⟩
  have k0 : Small2 (ga a b) 128 := ga_small sa sb
  have k1 : Small2 (ga (gmz a p) (gmz b q)) 4096 := ga_small s1 t1
  have k2 : Small2 (ga (gmz (gmz a p) p) (gmz (gmz b q) q)) 131072 := ga_small s2 t2
  have k3 : Small2 (ga (gmz (gmz (gmz a p) p) p) (gmz (gmz (gmz b q) q) q)) 4194304 := ga_small s3 t3
  clear a1 a2 a3 b1 b2 b3
  obtain ⟨Z0, z01, z02, z0⟩ := dyC_add hA hB 128 k0 (by omega) (by omega) (by omega)
  obtain ⟨Z1, z11, z12, z1⟩ := dyC_add x1 y1 4096 k1 (by omega) (by omega) (by omega)
  obtain ⟨Z2, z21, z22, z2⟩ := dyC_add x2 y2 131072 k2 (by omega) (by omega) (by omega)
  obtain ⟨Z3, z31, z32, z3⟩ := dyC_add x3 y3 4194304 k3 (by omega) (by omega) (by omega)
  obtain ⟨D, d1, d2, d3, d4⟩ := cross_dy z1 z1 z0 z2 (k := -16) (by omega) (by omega) 4096 4096 128 131072 k1 k1 k0 k2 (by omega) (by omega) (by omega) (by omega)
  obtain ⟨S, e1, e2, e3, e4⟩ := cross_dy z1 z2 z0 z3 (k := -20) (by omega) (by omega) 4096 131072 128 4194304 k1 k2 k0 k3 (by omega) (by omega) (by omega) (by omega)
  obtain ⟨T, f1, f2, f3, f4⟩ := cross_dy z2 z2 z1 z3 (k := -24) (by omega) (by omega) 131072 131072 4096 4194304 k2 k2 k1 k3 (by omega) (by omega) (by omega) (by omega)
  have hD : DyC (-16) (dK a b p q) D := d2
  have hS : DyC (-16 + -4) (sK a b p q) S := e2
  have hT : DyC (-16 + -8) (tK a b p q) T := f2
  have hd : Small2 (dK a b p q) 9007199254740992 := ⟨by have := d4.1; show (dK a b p q).1.natAbs ≤ _; exact Nat.le_trans this (by omega), by have := d4.2; show (dK a b p q).2.natAbs ≤ _; exact Nat.le_trans this (by omega)⟩
  have hga := ga_small sp sq
  have hgm := gm_le p q 16 16 sp sq
  obtain ⟨s1', s2', g1, g2, g3, g4, g5⟩ := quo_near (-16) (-4) _ _ (ga p q) S D (by omega) (by omega) (by omega) (by omega) hS hD (sK_eq a b p q) (dK_ne a b p q na nb npq) hd (by have := hga.1; simp; omega) (by have := hga.2; simp; omega)
  obtain ⟨t1', t2', i1, i2, i3, i4, i5⟩ := quo_near (-16) (-8) _ _ (gmz p q) T D (by omega) (by omega) (by omega) (by omega) hT hD (tK_eq a b p q) (dK_ne a b p q na nb npq) hd (by simp; omega) (by simp; omega)
  exact ⟨Z0, Z1, Z2, Z3, D, S, T, (s1', s2'), (t1', t2'), ⟨z01, z02⟩, ⟨z11, z12⟩, ⟨z21, z22⟩, ⟨z31, z32⟩, ⟨d1, e1, f1, d3, e3, f3, g1, i1, ⟨g2, g3⟩, ⟨i2, i3⟩, g4, g5, i4, i5⟩⟩

end Go.Proofs.Ytlhhcchncobmhaa
