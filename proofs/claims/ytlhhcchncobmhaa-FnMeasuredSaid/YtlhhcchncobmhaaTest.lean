/- Plain facts: sums of sizes in double precision, and the drift's test as the law makes it. No program stands in it.
   Conditions: those that each statement names. -/
import Derived.Test.YtlhhcchncobmhaaTrajT
namespace Go.Proofs.Ytlhhcchncobmhaa
set_option linter.unusedSimpArgs false
set_option linter.unusedVariables false
open Go

theorem u_tiny : Flo.u ≤ 1 / 1000000000000 := by
  have h1 := uv
  have ve := Flo.v_eq
  grind

/-- one more summand: c is a millionth -/
theorem acc_sum (A a G T r k u et es : Rat) (hA : 0 ≤ A) (ha : 0 ≤ a) (hk : 0 ≤ k) (hk2 : k ≤ 16) (u0 : 0 < u) (u1 : u ≤ 1 / 1000000000000) (e0 : 0 < et) (ee : et ≤ es / 1024) (h1 : Flo.Ab (G - A) (A * k / 1000000 + k * es)) (h2 : Flo.Ab (T - a) (a * u + et)) :
    Flo.Ab (G + T) (2 * A + 2 * a + 32 * es) ∧ (Flo.Ab (r - (G + T)) ((2 * A + 2 * a + 32 * es) * u + et) → Flo.Ab (r - (A + a)) ((A + a) * (k + 1) / 1000000 + (k + 1) * es)) := by
  have hes : 0 < es := by grind
  have k1 := Rat.mul_le_mul_of_nonneg_right hk2 hA
  have k2 := Rat.mul_le_mul_of_nonneg_right hk2 (Rat.le_of_lt hes)
  have k3 := Rat.mul_le_mul_of_nonneg_left u1 hA
  have k4 := Rat.mul_le_mul_of_nonneg_left u1 ha
  have k5 := Rat.mul_le_mul_of_nonneg_left u1 (Rat.le_of_lt hes)
  have k6 := Rat.mul_nonneg hk ha
  have k7 := Rat.mul_nonneg ha (Rat.le_of_lt u0)
  have k8 := Rat.mul_nonneg hk hA
  have k9 := Rat.mul_nonneg hk (Rat.le_of_lt hes)
  unfold Flo.Ab at *
  constructor
  · constructor <;> grind
  · intro h3
    constructor <;> grind

/-- the first part of a product of two bounded errors -/
theorem prod_sum (P Q p q x y es c K1 : Rat) (hP : 0 ≤ P) (hQ : 0 ≤ Q) (hPm : P ≤ 33554432) (hQm : Q ≤ 8192) (h1 : Flo.Ab (p - P) (P * 6 / 1000000 + 4096 * es)) (h2 : Flo.Ab (q - Q) (Q * 12 / 1000000 + 12 * es)) (e0 : 0 < es) (e1 : es ≤ 1 / 1048576) :
    Flo.Ab (p * q - P * Q) (P * Q * 19 / 1000000 + 1073741824 * es) := by
  have hPQ := Rat.mul_nonneg hP hQ
  have a1 := Rat.mul_le_mul_of_nonneg_right hPm (Rat.le_of_lt e0)
  have a2 := Rat.mul_le_mul_of_nonneg_right hQm (Rat.le_of_lt e0)
  have a3 := Rat.mul_le_mul_of_nonneg_right e1 (Rat.le_of_lt e0)
  have a4 := Rat.mul_nonneg hP (Rat.le_of_lt e0)
  have a5 := Rat.mul_nonneg hQ (Rat.le_of_lt e0)
  have hq : Flo.Ab q (Q + (Q * 12 / 1000000 + 12 * es)) := by unfold Flo.Ab at *; constructor <;> grind
  have hPa : Flo.Ab P P := ⟨by grind, by grind⟩
  have k := (h1.mul hq).add (hPa.mul h2)
  refine (k.eq (by grind)).mono ?_
  grind

structure Pows : Prop where
  l1 : Flo.pw 40 < Flo.pw 1023
  l2 : Flo.pw 40 = 1099511627776
  z20 : Flo.pw (-20) * 1048576 = 1
  z100 : Flo.pw (-100) = 1048576 * Flo.pw (-120)
  z120 : Flo.pw (-120) = 536870912 * Flo.es
  es0 : 0 < Flo.es
  es1 : Flo.es ≤ 1 / 1048576
theorem pows : Pows where
  l1 := Flo.pw_lt (by omega)
  l2 := Flo.pw_nat 40
  z20 := by
    have e := Flo.pw_neg_mul 20
    rw [show Flo.pw 20 = 1048576 from Flo.pw_nat 20] at e
    exact e
  z100 := by rw [show (-100 : Int) = 20 + -120 from rfl, Flo.pw_add, show Flo.pw 20 = 1048576 from Flo.pw_nat 20]
  z120 := by
    have : Flo.pw (-120) = Flo.pw 29 * Flo.pw (-149) := by rw [← Flo.pw_add]; rfl
    rw [this, show Flo.pw 29 = 536870912 from Flo.pw_nat 29]; rfl
  es0 := Flo.es_pos
  es1 := small'.es1

set_option maxHeartbeats 1600000 in
/-- THE LAW's TEST OF THE DRIFT. -/
theorem test_ok (A g s d : Nat) (Nr G X : Rat) (nA : Flo.Nm A) (vA : Flo.W A = Nr) (hN0 : 0 ≤ Nr) (hN1 : Nr ≤ 512) (ng : Flo.Nm g) (hg : Flo.Ab (Flo.W g - G) (G * 5 / 1000000 + 5 * Flo.es)) (hG0 : 0 ≤ G) (hG1 : G ≤ 32768)
    (ns : Flo.Nm s) (hs : Flo.Ab (Flo.W s - X) (X * 12 / 1000000 + 12 * Flo.es)) (hX0 : 0 ≤ X) (hX1 : X ≤ 4096) (nd : Flo.Nm d) (hd : Flo.W d ≤ Nr * (G * X) * (7 / 8) * Flo.pw (-20) + Flo.pw (-120)) :
    Calm .mul .f64 A g ∧ Calm .mul .f64 (opB .mul .f64 A g) s ∧ Calm .mul .f64 (opB .mul .f64 (opB .mul .f64 A g) s) (powB 20) ∧ Calm .add .f64 (opB .mul .f64 (opB .mul .f64 (opB .mul .f64 A g) s) (powB 20)) (powB 100) ∧
      leB d (opB .add .f64 (opB .mul .f64 (opB .mul .f64 (opB .mul .f64 A g) s) (powB 20)) (powB 100)) = true := by
  obtain ⟨l1, l2, z20, z100, z120, es0, es1⟩ := pows
  have u0 := Flo.u_pos
  have u1 := u_tiny
  have et0 := Flo.et_pos
  have ee := small'.ee
  have hz : Flo.pw (-20) = 1 / 1048576 := by grind
  obtain ⟨n20, v20⟩ := powB_ok 20 (by omega)
  obtain ⟨n100, v100⟩ := powB_ok 100 (by omega)
  rw [show (-((20 : Nat) : Int)) = -20 from rfl, hz] at v20
  rw [show (-((100 : Nat) : Int)) = -100 from rfl] at v100
  -- N G
  have hNG0 := Rat.mul_nonneg hN0 hG0
  have hNG1 : Nr * G ≤ 16777216 := by
    have a := Rat.mul_le_mul_of_nonneg_right hN1 hG0
    grind
  have hNA : Flo.Ab Nr 512 := ⟨by grind, hN1⟩
  have hNN : Flo.Ab Nr Nr := ⟨by grind, by grind⟩
  have k0 := (hNN.mul hg).eq (show Nr * (Flo.W g - G) = Flo.W A * Flo.W g - Nr * G by rw [vA]; grind)
  have hNe := Rat.mul_le_mul_of_nonneg_right hN1 (Rat.le_of_lt es0)
  have k1 : Flo.Ab (Flo.W A * Flo.W g - Nr * G) (Nr * G * 5 / 1000000 + 2560 * Flo.es) := k0.mono (by grind)
  have hNGu := Rat.mul_le_mul_of_nonneg_left u1 hNG0
  have heu := Rat.mul_le_mul_of_nonneg_left u1 (Rat.le_of_lt es0)
  have k2 : Flo.Ab (Flo.W A * Flo.W g) (2 * (Nr * G) + 2560 * Flo.es) := by unfold Flo.Ab at *; constructor <;> grind
  obtain ⟨m1, a1, a2, a3⟩ := Flo.d_mul A g nA ng _ k2 (by grind)
  obtain ⟨c1, b1⟩ := Calm.of a1
  have k3 : Flo.Ab (Flo.W m1 - Nr * G) (Nr * G * 6 / 1000000 + 4096 * Flo.es) := ((a3.add k1).eq (by grind)).mono (by grind)
  -- N G X
  have k4 := prod_sum (Nr * G) X (Flo.W m1) (Flo.W s) 0 0 Flo.es 0 0 hNG0 hX0 (by grind) (by grind) k3 hs es0 es1
  have hP0 := Rat.mul_nonneg hNG0 hX0
  have hP1 : Nr * G * X ≤ 68719476736 := by
    have a := Rat.mul_le_mul_of_nonneg_right hNG1 hX0
    grind
  have hPu := Rat.mul_le_mul_of_nonneg_left u1 hP0
  have hPP : Flo.Ab (Nr * G * X) (Nr * G * X) := ⟨by grind, by grind⟩
  have k5 : Flo.Ab (Flo.W m1 * Flo.W s) (2 * (Nr * G * X) + 1073741824 * Flo.es) := ((k4.add hPP).eq (by grind)).mono (by grind)
  obtain ⟨m2, d1, d2, d3⟩ := Flo.d_mul m1 s a2 ns _ k5 (by grind)
  obtain ⟨c2, b2⟩ := Calm.of d1
  have k6 : Flo.Ab (Flo.W m2 - Nr * G * X) (Nr * G * X * 20 / 1000000 + 1073741825 * Flo.es) := ((d3.add k4).eq (by grind)).mono (by grind)
  -- times 2^-20
  have k7 : Flo.Ab (Flo.W m2 * Flo.W (powB 20)) (2 * (Nr * G * X) + 1073741825 * Flo.es) := by rw [v20]; unfold Flo.Ab at *; constructor <;> grind
  obtain ⟨m3, e1, e2, e3⟩ := Flo.d_mul m2 (powB 20) d2 n20 _ k7 (by grind)
  obtain ⟨c3, b3⟩ := Calm.of e1
  rw [v20] at e3
  have k8 : Flo.Ab (Flo.W m3 - Nr * G * X * Flo.pw (-20)) (Nr * G * X * Flo.pw (-20) * 30 / 1000000 + 2048 * Flo.es) := by
    rw [hz]; unfold Flo.Ab at *; constructor <;> grind
  -- plus 2^-100
  have hQ0 : 0 ≤ Nr * G * X * Flo.pw (-20) := by rw [hz]; grind
  have hQ1 : Nr * G * X * Flo.pw (-20) ≤ 65536 := by rw [hz]; grind
  have hdd : Nr * (G * X) * (7 / 8) * Flo.pw (-20) = Nr * G * X * Flo.pw (-20) * (7 / 8) := by grind
  rw [hdd] at hd
  clear hdd
  generalize Nr * G * X * Flo.pw (-20) = Q at *
  have h100 : 0 < Flo.pw (-100) := Flo.pw_pos _
  have h100b : Flo.pw (-100) ≤ 1 := by rw [← Flo.pw_zero]; exact Flo.pw_le (by omega)
  have k9 : Flo.Ab (Flo.W m3 + Flo.W (powB 100)) (2 * Q + 2 * Flo.pw (-100)) := by rw [v100]; unfold Flo.Ab at *; constructor <;> grind
  have hQu := Rat.mul_le_mul_of_nonneg_left u1 hQ0
  have hzu := Rat.mul_le_mul_of_nonneg_left u1 (Rat.le_of_lt h100)
  obtain ⟨m4, f1, f2, f3⟩ := Flo.d_add m3 (powB 100) e2 n100 _ k9 (by grind)
  obtain ⟨c4, b4⟩ := Calm.of f1
  rw [v100] at f3
  have hlow : Flo.W d ≤ Flo.W m4 := by
    unfold Flo.Ab at k8 f3
    grind
  rw [← b1] at c2 b2
  rw [← b2] at c3 b3
  rw [← b3] at c4 b4
  exact ⟨c1, c2, c3, c4, by rw [b4]; exact (leB_iff nd f2).2 hlow⟩

/-! ### the two sums of the law -/
theorem acc_add (g t k : Nat) (A a : Rat) (hk : k ≤ 15) (hA : 0 ≤ A) (ha : 0 ≤ a) (hAa : A + a ≤ 100000) (ng : Flo.Nm g) (nt : Flo.Nm t) (h1 : Flo.Ab (Flo.W g - A) (A * (k : Rat) / 1000000 + (k : Rat) * Flo.es)) (h2 : Flo.Ab (Flo.W t - a) (a * Flo.u + Flo.et)) :
    Calm .add .f64 g t ∧ Flo.Nm (opB .add .f64 g t) ∧ Flo.Ab (Flo.W (opB .add .f64 g t) - (A + a)) ((A + a) * ((k + 1 : Nat) : Rat) / 1000000 + ((k + 1 : Nat) : Rat) * Flo.es) := by
  have hk0 : (0 : Rat) ≤ (k : Rat) := by exact_mod_cast Nat.zero_le k
  have hk1 : (k : Rat) ≤ 16 := by
    have : ((k : Nat) : Rat) ≤ ((16 : Nat) : Rat) := by exact_mod_cast (by omega : k ≤ 16)
    exact this
  obtain ⟨l1, l2, -, -, -, es0, es1⟩ := pows
  obtain ⟨b1, b2⟩ := acc_sum A a (Flo.W g) (Flo.W t) (Flo.W (opB .add .f64 g t)) (k : Rat) Flo.u Flo.et Flo.es hA ha hk0 hk1 Flo.u_pos u_tiny Flo.et_pos small'.ee h1 h2
  obtain ⟨r, r1, r2, r3⟩ := Flo.d_add g t ng nt _ b1 (by grind)
  obtain ⟨c1, e1⟩ := Calm.of r1
  rw [← e1] at r2 r3
  have h3 : ((k + 1 : Nat) : Rat) = (k : Rat) + 1 := by exact_mod_cast rfl
  rw [h3]
  exact ⟨c1, r2, b2 r3⟩
theorem acc_subt (g t k : Nat) (A a : Rat) (hk : k ≤ 15) (hA : 0 ≤ A) (ha : 0 ≤ a) (hAa : A + a ≤ 100000) (ng : Flo.Nm g) (nt : Flo.Nm t) (h1 : Flo.Ab (Flo.W g - A) (A * (k : Rat) / 1000000 + (k : Rat) * Flo.es)) (h2 : Flo.Ab (-Flo.W t - a) (a * Flo.u + Flo.et)) :
    Calm .sub .f64 g t ∧ Flo.Nm (opB .sub .f64 g t) ∧ Flo.Ab (Flo.W (opB .sub .f64 g t) - (A + a)) ((A + a) * ((k + 1 : Nat) : Rat) / 1000000 + ((k + 1 : Nat) : Rat) * Flo.es) := by
  have hk0 : (0 : Rat) ≤ (k : Rat) := by exact_mod_cast Nat.zero_le k
  have hk1 : (k : Rat) ≤ 16 := by
    have : ((k : Nat) : Rat) ≤ ((16 : Nat) : Rat) := by exact_mod_cast (by omega : k ≤ 16)
    exact this
  obtain ⟨l1, l2, -, -, -, es0, es1⟩ := pows
  obtain ⟨b1, b2⟩ := acc_sum A a (Flo.W g) (-Flo.W t) (Flo.W (opB .sub .f64 g t)) (k : Rat) Flo.u Flo.et Flo.es hA ha hk0 hk1 Flo.u_pos u_tiny Flo.et_pos small'.ee h1 h2
  obtain ⟨r, r1, r2, r3⟩ := Flo.d_sub g t ng nt _ (b1.eq (show Flo.W g + -Flo.W t = Flo.W g - Flo.W t by grind)) (by grind)
  obtain ⟨c1, e1⟩ := Calm.of r1
  rw [← e1] at r2 r3
  have h3 : ((k + 1 : Nat) : Rat) = (k : Rat) + 1 := by exact_mod_cast rfl
  rw [h3]
  exact ⟨c1, r2, b2 (r3.eq (by grind))⟩

/-- a valid mode's gain: its size in double precision -/
theorem gain_ok (m : M4) (hm : m.ok) : Flo.Nm (szd (wid m.gr) (wid m.gi)) ∧ Flo.Ab (Flo.W (szd (wid m.gr) (wid m.gi)) - gm m) (gm m * Flo.u + Flo.et) ∧ gm m ≤ 2048 := by
  obtain ⟨n1, n2, n3, n4⟩ := hm.nums
  obtain ⟨-, -, -, -, -, h6, h7⟩ := Valid.parts hm
  obtain ⟨m3, v3⟩ := wid_num n3
  obtain ⟨m4, v4⟩ := wid_num n4
  obtain ⟨l3, lv3⟩ := labs_num _ (wid_lt m.gr) m3
  obtain ⟨l4, lv4⟩ := labs_num _ (wid_lt m.gi) m4
  rw [v3] at lv3
  rw [v4] at lv4
  have v1024 : Flo.W 4652218415073722368 = 1024 := by
    have h : Ieee.double.read 4652218415073722368 = .number false 4503599627370496 (-42) := by decide
    rw [show Flo.W 4652218415073722368 = _ from Flo.V_eq h]
    unfold Flo.val
    have := Flo.pw_neg_mul 42
    rw [show Flo.pw 42 = 4398046511104 from Flo.pw_nat 42] at this
    simp only [Bool.false_eq_true, if_false]
    have e2 : ((4503599627370496 : Nat) : Rat) = 4503599627370496 := rfl
    rw [e2]; grind
  have g3 := (leB_iff l3 num_1024).1 h6
  have g4 := (leB_iff l4 num_1024).1 h7
  rw [v1024] at g3 g4
  have a3 := ra_nonneg (S m.gr)
  have a4 := ra_nonneg (S m.gi)
  obtain ⟨l1, l2, -, -, -, es0, es1⟩ := pows
  have he : Flo.W (labs (wid m.gr)) + Flo.W (labs (wid m.gi)) = gm m := by rw [lv3, lv4]; rfl
  obtain ⟨r, r1, r2, r3⟩ := Flo.d_add _ _ l3 l4 (gm m) (by rw [he]; unfold gm Flo.Ab; grind) (by rw [← he]; grind)
  have hr : szd (wid m.gr) (wid m.gi) = r := by unfold szd; rw [r1]; rfl
  rw [hr]
  rw [he] at r3
  exact ⟨r2, r3, by rw [← he]; grind⟩

def xsum : List Nat → Rat
  | [] => 0
  | x :: l => ra (S x) + xsum l
theorem xsum_nonneg : ∀ l, 0 ≤ xsum l
  | [] => by simp [xsum]
  | x :: l => by have := xsum_nonneg l; have := ra_nonneg (S x); simp only [xsum]; grind
theorem xsum_app : ∀ a b, xsum (a ++ b) = xsum a + xsum b
  | [], b => by simp only [List.nil_append, xsum]; grind
  | x :: a, b => by simp only [List.cons_append, xsum]; rw [xsum_app a b]; grind
theorem xsum_take (l : List Nat) (k : Nat) (x : Nat) (h : l[k]? = some x) : xsum (l.take (k + 1)) = xsum (l.take k) + ra (S x) := by
  obtain ⟨hk, he⟩ := List.getElem?_eq_some_iff.1 h
  rw [List.take_succ_eq_append_getElem hk, he, xsum_app]
  simp only [xsum]; grind
theorem xsum_take_le (l : List Nat) (k : Nat) : xsum (l.take k) ≤ xsum l := by
  have h := xsum_app (l.take k) (l.drop k)
  rw [List.take_append_drop] at h
  have := xsum_nonneg (l.drop k)
  grind
theorem xsum_le (l : List Nat) (B : Rat) (h : ∀ x ∈ l, ra (S x) ≤ B) : xsum l ≤ (l.length : Rat) * B := by
  induction l with
  | nil => simp [xsum]
  | cons x l ih =>
    have h1 := ih (fun y hy => h y (List.mem_cons_of_mem _ hy))
    have h2 := h x (List.mem_cons_self ..)
    have h3 : ((l.length + 1 : Nat) : Rat) = (l.length : Rat) + 1 := by exact_mod_cast rfl
    simp only [xsum, List.length_cons]
    rw [h3]; grind
theorem psum_xsum (xs : List Nat) : ∀ i, psum (fun j => S (inputOf xs j)) i = xsum (xs.take i)
  | 0 => by simp [psum, xsum]
  | i + 1 => by
    simp only [psum]
    rw [psum_xsum xs i]
    by_cases hi : i < xs.length
    · have e : xs[i]? = some xs[i] := List.getElem?_eq_getElem hi
      rw [xsum_take xs i _ e, show inputOf xs i = xs[i] from by unfold inputOf; rw [List.getD_eq_getElem?_getD, e]; rfl]
    · rw [show inputOf xs i = 0 from by unfold inputOf; rw [List.getD_eq_getElem?_getD, List.getElem?_eq_none (by omega)]; rfl, zero_single.2, List.take_of_length_le (by omega), List.take_of_length_le (by omega)]
      have : ra 0 = 0 := by unfold ra; rw [if_neg (by grind)]
      rw [this]; grind

theorem rs_app (f : M4 → Rat) : ∀ a b, rs f (a ++ b) = rs f a + rs f b
  | [], b => by simp only [List.nil_append, rs]; grind
  | x :: a, b => by simp only [List.cons_append, rs]; rw [rs_app f a b]; grind
theorem rs_take (f : M4 → Rat) (l : List M4) (k : Nat) (m : M4) (h : l[k]? = some m) : rs f (l.take (k + 1)) = rs f (l.take k) + f m := by
  obtain ⟨hk, he⟩ := List.getElem?_eq_some_iff.1 h
  rw [List.take_succ_eq_append_getElem hk, he, rs_app]
  simp only [rs]; grind
theorem rs_max (f : M4 → Rat) (B : Rat) : ∀ l : List M4, (∀ m ∈ l, f m ≤ B) → rs f l ≤ (l.length : Rat) * B
  | [], _ => by simp [rs]
  | m :: l, h => by
    have h1 := rs_max f B l (fun m hm => h m (List.mem_cons_of_mem _ hm))
    have h2 := h m (List.mem_cons_self ..)
    have h3 : ((l.length + 1 : Nat) : Rat) = (l.length : Rat) + 1 := by exact_mod_cast rfl
    simp only [rs, List.length_cons]
    rw [h3]; grind

/-- 'x < 0' -/
def neg32 (x : Nat) : Bool := FloatKind.f32.format.order x 0 == some .lt
theorem neg32_iff {x : Nat} (h : Sm x) : (neg32 x = true → ra (S x) = -S x) ∧ (neg32 x = false → ra (S x) = S x) := by
  have o := (Flo.order_num Ieee.single x 0 h zero_single.1).1
  rw [show Flo.V Ieee.single 0 = 0 from zero_single.2] at o
  unfold neg32 ra
  rw [show FloatKind.f32.format = Ieee.single from rfl]
  constructor
  · intro hn
    rw [if_pos (o.1 (by simpa using hn))]
  · intro hn
    have : ¬ Flo.V Ieee.single x < 0 := fun g => by rw [o.2 g] at hn; simp at hn
    rw [if_neg this]

theorem Calm.runs {P : Program} {o : BinOp} {k : FloatKind} {x y : Nat} (h : Calm o k x y) (ho : o = .add ∨ o = .sub ∨ o = .mul) (t : TypeId) (w : World) : (binOp o t (.float k x) (.float k y)).run P w = .ok (.float k (opB o k x y)) w := by
  rcases ho with rfl | rfl | rfl
  · rw [run_fl_add, h.res, h.fdr]; rfl
  · rw [run_fl_sub, h.res, h.fdr]; rfl
  · rw [run_fl_mul, h.res, h.fdr]; rfl

end Go.Proofs.Ytlhhcchncobmhaa
