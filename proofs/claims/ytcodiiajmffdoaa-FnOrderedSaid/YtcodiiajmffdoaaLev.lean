/- Plain facts on the energy and the peak of finite samples: the peak is at least each sample's absolute value, and one's own; the energy is at least each square.
   Conditions: those that each statement names. No program stands in it. -/
import Derived.Test.YtcodiiajmffdoaaEnN
import Derived.Test.YtcodiiajmffdoaaPeak
import Derived.Test.YtcodiiajmffdoaaDamp
import Derived.Test.YtcodiiajmffdoaaEv
import Derived.Test.YtcodiiajmffdoaaNg
namespace Go.Proofs.Ytcodiiajmffdoaa
open Go

theorem sm_nn {b : Nat} (h : Sm b) : nan32 b = false := by
  obtain ⟨s, m, p, h⟩ := h
  unfold nan32
  rw [show FloatKind.f32.decode b = _ from h]; rfl

namespace Flo
open Ieee
theorem add_ge (x y : Nat) (hx : Nm x) (hy : Nm y) (x0 : 0 ≤ W x) (y0 : 0 ≤ W y) (hB : W x + W y < pw 1023) : ∃ r, floatBits .add .f64 x y = some r ∧ Nm r ∧ W x ≤ W r := by
  obtain ⟨s, m, i, hx⟩ := hx
  obtain ⟨t, n, j, hy⟩ := hy
  have ex : W x = val s m i := V_eq hx
  have ey : W y = val t n j := V_eq hy
  rw [ex] at x0 hB ⊢
  rw [ey] at y0 hB
  obtain ⟨q, k, b, h3, h4⟩ := sum_val s t m n i j
  have he : floatBits .add .f64 x y = some (Ieee.double.write (.number q k b)) := by
    show Ieee.double.add x y = _
    unfold Format.add
    rw [hx, hy, h3]; rfl
  have rx : ra (val s m i) = val s m i := by unfold ra; rw [if_neg (by grind)]
  have rq : ra (val q k b) = val q k b := by unfold ra; rw [if_neg (by rw [h4]; grind)]
  rw [val_ra] at rx rq
  obtain ⟨m', p', n', q', k1, k2, k3⟩ := write_mono Ieee.double (by decide) s q m k i b (by rw [rx, rq, h4]; grind) (by rw [rq, h4, top_double]; exact hB)
  have k0 := read_back Ieee.double (by decide) hx
  rw [k0] at k1
  injection k1 with _ e1 e2
  rw [← e1, ← e2] at k3
  refine ⟨_, he, ⟨_, _, _, k2⟩, ?_⟩
  rw [show W (Ieee.double.write (.number q k b)) = _ from V_eq k2]
  cases q with
  | false =>
    unfold val at rx ⊢
    simp only [Bool.false_eq_true, if_false] at rx ⊢
    grind
  | true =>
    have hk : (k : Rat) * pw b = 0 := by
      have a1 := mag_nonneg k b
      have : val true k b = -((k : Rat) * pw b) := by unfold val; simp; grind
      grind
    have k0' : k = 0 := mag_zero (p := b) (by grind)
    obtain ⟨z1, z2, z3⟩ := write_zero Ieee.double true b
    subst k0'
    rw [k2] at z3
    injection z3 with _ e3 e4
    subst e3
    rw [val_zero] at h4 ⊢
    grind
end Flo

/-- the square of a sample, in double precision -/
def sqB (x : Nat) : Nat := (floatBits .mul .f64 (wid x) (wid x)).getD 0
theorem sq_ok {x : Nat} (hx : Sm x) : floatBits .mul .f64 (wid x) (wid x) = some (sqB x) ∧ Flo.Nm (sqB x) ∧ 0 ≤ Flo.W (sqB x) ∧ Flo.W (sqB x) ≤ 2 * Flo.pw 256 := by
  obtain ⟨n, v⟩ := wid_num hx
  have a := single_abs hx
  have hm := a.mul a
  have e256 : Flo.pw 128 * Flo.pw 128 = Flo.pw 256 := by rw [← Flo.pw_add]; rfl
  rw [e256, ← v] at hm
  have l1 : Flo.pw 256 < Flo.pw 1023 := Flo.pw_lt (by omega)
  have p0 : 1 ≤ Flo.pw 256 := by rw [← Flo.pw_zero]; exact Flo.pw_le (by omega)
  have u1 := Flo.u_le
  have u0 := Flo.u_pos
  have eu : Flo.et ≤ Flo.u := Flo.pw_le (by omega)
  obtain ⟨r1, q1, q2, q3⟩ := Flo.d_mul (wid x) (wid x) n n _ hm l1
  have u2 : Flo.u ≤ 1 / 1048576 := by grind
  have hP := Rat.mul_le_mul_of_nonneg_left u2 (show (0 : Rat) ≤ Flo.pw 256 by grind)
  have hr1 : Flo.Ab (Flo.W r1) (2 * Flo.pw 256) := ((q3.add hm).eq (by grind)).mono (by grind)
  have e : sqB x = r1 := by unfold sqB; rw [q1]; rfl
  obtain ⟨r, g1, g2⟩ := Flo.self_pos Ieee.double (by decide) (wid x) n (by
    show ra (Flo.W (wid x) * Flo.W (wid x)) < _
    rw [Flo.top_double]
    have := ra_le hm
    grind)
  have e2 : r = r1 := by
    have : some r = some r1 := g1.symm.trans q1
    injection this
  rw [e]
  exact ⟨q1, q2, by rw [← e2]; exact g2, hr1.2⟩

theorem en_one (s x : Nat) (k : Nat) (hk : k ≤ 1000) (hs : Flo.Nm s) (h0 : 0 ≤ Flo.W s) (hb : Flo.W s ≤ (k : Rat) * enB) (hx : Sm x) :
    ∃ r, fA .add .f64 (some s) (fA .mul .f64 (wA x) (wA x)) = some r ∧ Flo.Nm r ∧ Flo.W r ≤ ((k + 1 : Nat) : Rat) * enB ∧ Flo.W s ≤ Flo.W r ∧ Flo.W (sqB x) ≤ Flo.W r := by
  obtain ⟨q1, q2, q3, q4⟩ := sq_ok hx
  have hwa : wA x = some (wid x) := by unfold wA; rw [sm_nn hx]; rfl
  obtain ⟨r, a1, a2, a3⟩ := en_step s x k hk hs ⟨by have h1 : (0 : Rat) ≤ (k : Rat) * enB := (by grind); grind, hb⟩ hx
  have e0 : fA .add .f64 (some s) (fA .mul .f64 (wA x) (wA x)) = floatBits .add .f64 s (sqB x) := by
    rw [hwa]
    show fA .add .f64 (some s) (floatBits .mul .f64 (wid x) (wid x)) = _
    rw [q1]; rfl
  have k1 : (k : Rat) ≤ 1000 := by
    have : ((k : Nat) : Rat) ≤ ((1000 : Nat) : Rat) := by exact_mod_cast hk
    exact this
  have l3 : Flo.pw 280 < Flo.pw 1023 := Flo.pw_lt (by omega)
  have l4 : Flo.pw 280 = 1048576 * Flo.pw 260 := by rw [show (280 : Int) = 20 + 260 from rfl, Flo.pw_add, show Flo.pw 20 = 1048576 from Flo.pw_nat 20]
  have l2 : Flo.pw 260 = 16 * Flo.pw 256 := by rw [show (260 : Int) = 4 + 256 from rfl, Flo.pw_add, show Flo.pw 4 = 16 from Flo.pw_nat 4]
  have p0 := Flo.pw_pos 260
  have hkb : (k : Rat) * enB ≤ 1000 * enB := Rat.mul_le_mul_of_nonneg_right k1 (by unfold enB; grind)
  have hB : Flo.W s + Flo.W (sqB x) < Flo.pw 1023 := by unfold enB at *; grind
  obtain ⟨r1, b1, b2, b3⟩ := Flo.add_ge s (sqB x) hs q2 h0 q3 hB
  obtain ⟨r2, c1, c2, c3⟩ := Flo.add_ge (sqB x) s q2 hs q3 h0 (by grind)
  have c1' : floatBits .add .f64 s (sqB x) = some r2 := by
    have := Flo.add_comm' Ieee.double s (sqB x)
    exact (show floatBits .add .f64 s (sqB x) = floatBits .add .f64 (sqB x) s from this).trans c1
  rw [e0, b1] at a1
  rw [b1] at c1'
  injection a1 with a1
  injection c1' with c1'
  subst a1; subst c1'
  exact ⟨r1, by rw [e0, b1], a2, a3.2, b3, c3⟩
theorem en_ge : ∀ (zs : List Nat) (s k : Nat), k + zs.length ≤ 1000 → Flo.Nm s → 0 ≤ Flo.W s → Flo.W s ≤ (k : Rat) * enB → (∀ x ∈ zs, Sm x) →
    ∃ r, zs.foldl (fun s x => fA .add .f64 s (fA .mul .f64 (wA x) (wA x))) (some s) = some r ∧ Flo.Nm r ∧ Flo.W s ≤ Flo.W r ∧ ∀ x ∈ zs, Flo.W (sqB x) ≤ Flo.W r
  | [], s, k, _, hs, _, _, _ => ⟨s, rfl, hs, Rat.le_refl, fun x hx => by simp at hx⟩
  | x :: zs, s, k, hk, hs, h0, hb, hx => by
    simp only [List.length_cons] at hk
    obtain ⟨r, h1, h2, h3, h4, h5⟩ := en_one s x k (by omega) hs h0 hb (hx x (List.mem_cons_self ..))
    rw [List.foldl_cons, h1]
    obtain ⟨r', g1, g2, g3, g4⟩ := en_ge zs r (k + 1) (by omega) h2 (by grind) h3 (fun y hy => hx y (List.mem_cons_of_mem _ hy))
    refine ⟨r', g1, g2, by grind, fun y hy => ?_⟩
    rcases List.mem_cons.1 hy with rfl | hy
    · grind
    · exact g4 y hy
theorem en_all (zs : List Nat) (hl : zs.length ≤ 1000) (hx : ∀ x ∈ zs, Sm x) : 0 ≤ Flo.W (enN zs) ∧ ∀ x ∈ zs, Flo.W (sqB x) ≤ Flo.W (enN zs) := by
  have h0 : fab .f64 0 = some 0 := fab_some (by decide)
  obtain ⟨r, h1, h2, h3, h4⟩ := en_ge zs 0 0 (by omega) zero_double.1 (by rw [zero_double.2]; exact Rat.le_refl) (by rw [zero_double.2]; unfold enB; have := Flo.pw_pos 260; grind) hx
  have e : enN zs = r := by unfold enN enA; rw [h0, h1]; rfl
  rw [zero_double.2] at h3
  rw [e]
  exact ⟨h3, h4⟩

/-! ### the peak -/
theorem pk_fold : ∀ (zs : List Nat) (b : Nat), Flo.Nm b → 0 ≤ Flo.W b → (∀ x ∈ zs, Sm x) →
    Flo.Nm (zs.foldl pk1 b) ∧ Flo.W b ≤ Flo.W (zs.foldl pk1 b) ∧ (∀ x ∈ zs, ra (S x) ≤ Flo.W (zs.foldl pk1 b)) ∧ (Flo.W (zs.foldl pk1 b) = Flo.W b ∨ ∃ x ∈ zs, Flo.W (zs.foldl pk1 b) = ra (S x))
  | [], b, hb, _, _ => ⟨hb, Rat.le_refl, fun x hx => by simp at hx, .inl rfl⟩
  | x :: zs, b, hb, h0, hx => by
    have sx := hx x (List.mem_cons_self ..)
    obtain ⟨n, v⟩ := wid_num sx
    have la := labs_num (wid x) (wid_lt x) n
    rw [v] at la
    have o := Flo.order_num Ieee.double (labs (wid x)) b la.1 hb
    have step : Flo.Nm (pk1 b x) ∧ Flo.W b ≤ Flo.W (pk1 b x) ∧ ra (S x) ≤ Flo.W (pk1 b x) ∧ (Flo.W (pk1 b x) = Flo.W b ∨ Flo.W (pk1 b x) = ra (S x)) := by
      cases hg : (FloatKind.f64.format.order (labs (wid x)) b == some .gt) with
      | true =>
        rw [pk1_up (sm_nn sx) hg]
        have := o.2.2.1 (show FloatKind.f64.format.order (labs (wid x)) b = some .gt by simpa using hg)
        have h2 : Flo.W b < Flo.W (labs (wid x)) := this
        rw [la.2] at h2 ⊢
        exact ⟨la.1, by grind, Rat.le_refl, .inr rfl⟩
      | false =>
        rw [pk1_stay (sm_nn sx) hg]
        have h1 : ¬ Ieee.double.order (labs (wid x)) b = some .gt := show ¬ FloatKind.f64.format.order (labs (wid x)) b = some .gt by simpa using hg
        rw [o.2.2] at h1
        have h2 : ¬ Flo.W b < Flo.W (labs (wid x)) := h1
        rw [la.2] at h2
        exact ⟨hb, Rat.le_refl, by grind, .inl rfl⟩
    obtain ⟨s1, s2, s3, s4⟩ := step
    rw [List.foldl_cons]
    obtain ⟨g1, g2, g3, g4⟩ := pk_fold zs (pk1 b x) s1 (by grind) (fun y hy => hx y (List.mem_cons_of_mem _ hy))
    refine ⟨g1, by grind, fun y hy => ?_, ?_⟩
    · rcases List.mem_cons.1 hy with rfl | hy
      · grind
      · exact g3 y hy
    · rcases g4 with g | ⟨y, hy, g⟩
      · rcases s4 with h | h
        · exact .inl (by rw [g, h])
        · exact .inr ⟨x, List.mem_cons_self .., by rw [g, h]⟩
      · exact .inr ⟨y, List.mem_cons_of_mem _ hy, g⟩
/-- the peak's word, of finite samples -/
theorem peak_ok (zs : List Nat) (p : Nat) (hx : ∀ x ∈ zs, Sm x) (h : Tw p (pkB zs)) : Sm p ∧ 0 ≤ S p ∧ (∀ x ∈ zs, ra (S x) ≤ S p) ∧ (zs = [] ∧ S p = 0 ∨ ∃ x ∈ zs, S p = ra (S x)) := by
  obtain ⟨h1, h2, h3, h4⟩ := pk_fold zs 0 zero_double.1 (by rw [zero_double.2]; exact Rat.le_refl) hx
  have hb : pkB zs = zs.foldl pk1 0 := rfl
  rw [← hb] at h1 h2 h3 h4
  rw [zero_double.2] at h2 h4
  obtain ⟨m, i, n, j, e1, e2, e3⟩ : ∃ m i n j, Ieee.single.read p = .number false m i ∧ Ieee.double.read (pkB zs) = .number false n j ∧ (m : Rat) * Flo.pw i = (n : Rat) * Flo.pw j := by
    rcases h with h | ⟨_, k⟩
    · exact h
    · obtain ⟨s, m, i, g⟩ := h1
      rw [g] at k; cases k
  have ev : S p = Flo.W (pkB zs) := by
    rw [show S p = _ from Flo.V_eq e1, show Flo.W (pkB zs) = _ from Flo.V_eq e2]
    unfold Flo.val; rw [e3]
  rw [ev]
  refine ⟨⟨_, _, _, e1⟩, h2, h3, ?_⟩
  rcases h4 with g | g
  · cases zs with
    | nil => exact .inl ⟨rfl, g⟩
    | cons x zs =>
      right
      refine ⟨x, List.mem_cons_self .., ?_⟩
      have := h3 x (List.mem_cons_self ..)
      have := ra_nonneg (S x)
      grind
  · exact .inr g
/-- the peak's square is no greater than the energy -/
theorem peak_sq (zs : List Nat) (p : Nat) (hl : zs.length ≤ 1000) (hx : ∀ x ∈ zs, Sm x) (h : Tw p (pkB zs)) : ∃ r, floatBits .mul .f64 (wid p) (wid p) = some r ∧ Flo.Nm r ∧ Flo.W r ≤ Flo.W (enN zs) := by
  obtain ⟨sp, p0, p1, p2⟩ := peak_ok zs p hx h
  obtain ⟨q1, q2, q3, q4⟩ := sq_ok sp
  refine ⟨sqB p, q1, q2, ?_⟩
  obtain ⟨e0, e1⟩ := en_all zs hl hx
  have key : ∀ x, Sm x → S p = ra (S x) → Flo.W (sqB p) ≤ Flo.W (sqB x) := by
    intro x hx hv
    obtain ⟨n, v⟩ := wid_num sp
    obtain ⟨n', v'⟩ := wid_num hx
    have l1 : Flo.pw 256 < Flo.pw 1023 := Flo.pw_lt (by omega)
    have a := single_abs hx
    have hm := a.mul a
    have e256 : Flo.pw 128 * Flo.pw 128 = Flo.pw 256 := by rw [← Flo.pw_add]; rfl
    rw [e256] at hm
    obtain ⟨r, r', g1, g2, g3, g4, g5⟩ := Flo.mul_mono Ieee.double (by decide) (wid p) (wid p) (wid x) (wid x) n n n' n' (by
      show ra (Flo.W (wid p) * Flo.W (wid p)) ≤ ra (Flo.W (wid x) * Flo.W (wid x))
      rw [v, v', ra_mul, ra_mul, hv]
      have : ra (ra (S x)) = ra (S x) := by have := ra_nonneg (S x); generalize ra (S x) = y at *; unfold ra; rw [if_neg (by grind)]
      rw [this]; exact Rat.le_refl) (by
      show ra (Flo.W (wid x) * Flo.W (wid x)) < _
      rw [v', Flo.top_double]
      have := ra_le hm
      grind)
    obtain ⟨t1, t2, t3, t4⟩ := sq_ok hx
    have i1 : r = sqB p := by
      have : some r = some (sqB p) := g1.symm.trans q1
      injection this
    have i2 : r' = sqB x := by
      have : some r' = some (sqB x) := g2.symm.trans t1
      injection this
    subst i1; subst i2
    have a1 : ra (Flo.W (sqB p)) = Flo.W (sqB p) := by unfold ra; rw [if_neg (by grind)]
    have a2 : ra (Flo.W (sqB x)) = Flo.W (sqB x) := by unfold ra; rw [if_neg (by grind)]
    have g6 : ra (Flo.W (sqB p)) ≤ ra (Flo.W (sqB x)) := g5
    rw [a1, a2] at g6
    exact g6
  rcases p2 with ⟨rfl, hz⟩ | ⟨x, hxm, hv⟩
  · have k := key 0 ⟨false, 0, -149, by decide⟩ (by
      rw [hz, show S 0 = 0 from by rw [show S 0 = _ from Flo.V_eq (show Ieee.single.read 0 = .number false 0 (-149) by decide), Flo.val_zero]]
      unfold ra; simp)
    have z : sqB 0 = 0 := by decide
    rw [z, zero_double.2] at k
    grind
  · have := key x (hx x hxm) hv
    have := e1 x hxm
    grind

/-! ### what the law asks of the peak -/
def hitB (p x : Nat) : Bool := FloatKind.f32.format.order x p == some .eq || FloatKind.f32.format.order (Op.negFloat .f32 x) p == some .eq
def metB (xs : List Nat) (p k : Nat) : Bool := decide (xs.length = 0) || (xs.take k).any (hitB p)
theorem metB_step (xs : List Nat) (p k x : Nat) (h : xs[k]? = some x) : metB xs p (k + 1) = (metB xs p k || hitB p x) := by
  obtain ⟨hk, he⟩ := List.getElem?_eq_some_iff.1 h
  unfold metB
  rw [List.take_succ_eq_append_getElem hk, he, List.any_append]
  simp [Bool.or_assoc]

theorem gt32_no {x p : Nat} (hx : Sm x) (hp : Sm p) (h : S x ≤ S p) : (FloatKind.f32.format.order x p == some .gt) = false := by
  have o := Flo.order_num Ieee.single x p hx hp
  cases hg : (FloatKind.f32.format.order x p == some .gt) with
  | false => rfl
  | true =>
    exfalso
    have := o.2.2.1 (show FloatKind.f32.format.order x p = some .gt by simpa using hg)
    have h2 : S p < S x := this
    grind
theorem eq32_yes {x p : Nat} (hx : Sm x) (hp : Sm p) (h : S x = S p) : (FloatKind.f32.format.order x p == some .eq) = true := by
  have o := Flo.order_num Ieee.single x p hx hp
  have := o.2.1.2 h
  simpa using (show FloatKind.f32.format.order x p = some .eq from this)
/-- what the law's loop finds -/
theorem peak_law (xs : List Nat) (p : Nat) (hx : ∀ x ∈ xs, Sm x) (h : Tw p (pkB xs)) :
    (∀ x ∈ xs, (FloatKind.f32.format.order x p == some .gt) = false ∧ (FloatKind.f32.format.order (Op.negFloat .f32 x) p == some .gt) = false) ∧ metB xs p xs.length = true ∧ (xs.length = 0 → (FloatKind.f32.format.order p 0 == some .eq) = true) := by
  obtain ⟨sp, p0, p1, p2⟩ := peak_ok xs p hx h
  have z0 : Sm 0 ∧ S 0 = 0 := ⟨⟨false, 0, -149, by decide⟩, by rw [show S 0 = _ from Flo.V_eq (show Ieee.single.read 0 = .number false 0 (-149) by decide), Flo.val_zero]⟩
  refine ⟨fun x hxm => ?_, ?_, fun h0 => ?_⟩
  · obtain ⟨n1, n2⟩ := ng_val (hx x hxm)
    have r := ra_ab (S x)
    have := p1 x hxm
    unfold Flo.Ab at r
    exact ⟨gt32_no (hx x hxm) sp (by grind), gt32_no n1 sp (by rw [n2]; grind)⟩
  · rcases p2 with ⟨rfl, -⟩ | ⟨x, hxm, hv⟩
    · rfl
    · unfold metB
      rw [List.take_length, Bool.or_eq_true, List.any_eq_true]
      refine .inr ⟨x, hxm, ?_⟩
      unfold hitB
      rw [Bool.or_eq_true]
      obtain ⟨n1, n2⟩ := ng_val (hx x hxm)
      rcases ra_or (S x) with g | g
      · exact .inl (eq32_yes (hx x hxm) sp (by rw [hv]; exact g))
      · exact .inr (eq32_yes n1 sp (by rw [n2, hv, g]; grind))
  · have e0 : xs = [] := List.eq_nil_of_length_eq_zero h0
    subst e0
    rcases p2 with ⟨-, hz⟩ | ⟨x, hxm, -⟩
    · exact eq32_yes sp z0.1 (by rw [hz, z0.2])
    · simp at hxm
/-- nine more -/
theorem en_more (xs : List Nat) (hl : xs.length ≤ 900) (hx : ∀ x ∈ xs, Sm x) : floatBits .add .f64 (enN xs) 4621256167635550208 = some (enN (xs ++ [1077936128])) ∧ (FloatKind.f64.format.order (enN (xs ++ [1077936128])) (enN (xs ++ [1077936128])) == some .eq) = true := by
  have h3 : Sm 1077936128 := ⟨false, 12582912, -22, by decide⟩
  have hx3 : ∀ x ∈ xs ++ [1077936128], Sm x := fun x h => by
    rcases List.mem_append.1 h with h | h
    · exact hx x h
    · simp at h; subst h; exact h3
  obtain ⟨a1, a2⟩ := en_num xs (by omega) hx
  obtain ⟨b1, b2⟩ := en_num (xs ++ [1077936128]) (by simp; omega) hx3
  refine ⟨?_, ?_⟩
  · have e : enA (xs ++ [1077936128]) = fA .add .f64 (enA xs) (fA .mul .f64 (wA 1077936128) (wA 1077936128)) := by
      unfold enA
      rw [List.foldl_append]; rfl
    rw [a1, b1] at e
    have e9 : fA .mul .f64 (wA 1077936128) (wA 1077936128) = some 4621256167635550208 := by decide
    rw [e9] at e
    exact e.symm
  · rw [order_self]
    obtain ⟨s, m, p, h⟩ := b2
    rw [show FloatKind.f64.decode _ = _ from h]; rfl

end Go.Proofs.Ytcodiiajmffdoaa
