/- Ringing as plain functions: a late input, the factor 1, the first samples. No walk stands in it.
   Conditions: those that each statement names. -/
import Derived.Test.YtfgofmcpgfofaaaEv
import Derived.Test.YtfgofmcpgfofaaaTouch
import Derived.Test.YtfgofmcpgfofaaaTest
namespace Go.Proofs.Ytfgofmcpgfofaaa
open Go

abbrev EvS (a b : Nat) : Prop := Flo.Ev Ieee.single a b
theorem opB_add_ev (k : FloatKind) {x x' y y' : Nat} (h : Flo.Ev k.format x x') (g : Flo.Ev k.format y y') : Flo.Ev k.format (opB .add k x y) (opB .add k x' y') := (Flo.add_ev k.format _ _ _ _ h g).getD
theorem opB_sub_ev (k : FloatKind) {x x' y y' : Nat} (h : Flo.Ev k.format x x') (g : Flo.Ev k.format y y') : Flo.Ev k.format (opB .sub k x y) (opB .sub k x' y') := (Flo.sub_ev k.format _ _ _ _ h g).getD
theorem opB_mul_ev (k : FloatKind) {x x' y y' : Nat} (h : Flo.Ev k.format x x') (g : Flo.Ev k.format y y') : Flo.Ev k.format (opB .mul k x y) (opB .mul k x' y') := (Flo.mul_ev k.format _ _ _ _ h g).getD
theorem wid_zr {a : Nat} (h : Flo.Zr Ieee.single a) : Flo.Zr Ieee.double (wid a) := by
  obtain ⟨s, p, h⟩ := h
  unfold wid FloatKind.encode FloatKind.decode
  rw [show FloatKind.f32.format = Ieee.single from rfl, h]
  exact Flo.write_zero Ieee.double s p
theorem wid_ev {a b : Nat} (h : EvS a b) : Flo.Ev Ieee.double (wid a) (wid b) := by
  rcases h with rfl | ⟨h1, h2⟩
  · exact .inl rfl
  · exact .inr ⟨wid_zr h1, wid_zr h2⟩
theorem nar_zr {a : Nat} (h : Flo.Zr Ieee.double a) : Flo.Zr Ieee.single (Flo.nar a) := by
  obtain ⟨s, p, h⟩ := h
  unfold Flo.nar FloatKind.encode FloatKind.decode
  rw [show FloatKind.f64.format = Ieee.double from rfl, h]
  exact Flo.write_zero Ieee.single s p
theorem nar_ev {a b : Nat} (h : Flo.Ev Ieee.double a b) : EvS (Flo.nar a) (Flo.nar b) := by
  rcases h with rfl | ⟨h1, h2⟩
  · exact .inl rfl
  · exact .inr ⟨nar_zr h1, nar_zr h2⟩

def EvP (s t : Nat × Nat) : Prop := EvS s.1 t.1 ∧ EvS s.2 t.2
theorem stepS_ev (m : M4) {s t : Nat × Nat} {x y : Nat} (h : EvP s t) (g : EvS x y) : EvP (stepS m s x) (stepS m t y) := by
  have w1 := wid_ev h.1
  have w2 := wid_ev h.2
  have r := Flo.Ev.refl Ieee.double
  have q := Flo.Ev.refl Ieee.single
  exact ⟨opB_add_ev .f32 (nar_ev (opB_sub_ev .f64 (opB_mul_ev .f64 w1 (r _)) (opB_mul_ev .f64 w2 (r _)))) (opB_mul_ev .f32 (q _) g),
    opB_add_ev .f32 (nar_ev (opB_add_ev .f64 (opB_mul_ev .f64 w1 (r _)) (opB_mul_ev .f64 w2 (r _)))) (opB_mul_ev .f32 (q _) g)⟩

theorem zr_zero : Flo.Zr Ieee.single 0 := ⟨false, -149, by decide⟩
theorem mul_zr' {k : FloatKind} {x y : Nat} (h : Flo.Zr k.format x) (g : Flo.IsNum k.format y) : Flo.Zr k.format (opB .mul k x y) := by
  obtain ⟨r, h1, h2⟩ := Flo.mul_zr h g
  rw [show opB .mul k x y = (k.format.mul x y).getD 0 from rfl, h1]; exact h2
theorem mul_zr'' {k : FloatKind} {x y : Nat} (h : Flo.Zr k.format y) (g : Flo.IsNum k.format x) : Flo.Zr k.format (opB .mul k x y) := by
  rw [show opB .mul k x y = (k.format.mul x y).getD 0 from rfl, Flo.mul_comm']
  exact mul_zr' h g
theorem add_zr' {k : FloatKind} {x y : Nat} (h : Flo.Zr k.format x) (g : Flo.Zr k.format y) : Flo.Zr k.format (opB .add k x y) := by
  obtain ⟨r, h1, h2⟩ := Flo.add_zr h g
  rw [show opB .add k x y = (k.format.add x y).getD 0 from rfl, h1]; exact h2
theorem sub_zr' {k : FloatKind} {x y : Nat} (h : Flo.Zr k.format x) (g : Flo.Zr k.format y) : Flo.Zr k.format (opB .sub k x y) := by
  obtain ⟨r, h1, h2⟩ := Flo.sub_zr h g
  rw [show opB .sub k x y = (k.format.sub x y).getD 0 from rfl, h1]; exact h2
theorem step_zero (m : M4) (hm : m.ok) : Flo.Zr Ieee.single (stepS m (0, 0) 0).1 ∧ Flo.Zr Ieee.single (stepS m (0, 0) 0).2 := by
  obtain ⟨n1, n2, n3, n4⟩ := hm.nums
  have w0 := wid_zr zr_zero
  have p1 := (wid_num n1).1
  have p2 := (wid_num n2).1
  exact ⟨add_zr' (k := .f32) (nar_zr (sub_zr' (k := .f64) (mul_zr' (k := .f64) w0 p1) (mul_zr' (k := .f64) w0 p2))) (mul_zr'' (k := .f32) zr_zero n3),
    add_zr' (k := .f32) (nar_zr (add_zr' (k := .f64) (mul_zr' (k := .f64) w0 p2) (mul_zr' (k := .f64) w0 p1))) (mul_zr'' (k := .f32) zr_zero n4)⟩

/-! ### a late input -/
theorem input_late (xs : List Nat) (i : Nat) : inputOf (0 :: xs) (i + 1) = inputOf xs i := by simp [inputOf]
theorem late_one (m : M4) (hm : m.ok) (xs : List Nat) : ∀ i, EvP (st1 m (inputOf (0 :: xs)) (i + 1)) (st1 m (inputOf xs) i)
  | 0 => by
    obtain ⟨h1, h2⟩ := step_zero m hm
    exact ⟨.inr ⟨h1, zr_zero⟩, .inr ⟨h2, zr_zero⟩⟩
  | i + 1 => by
    have h := stepS_ev m (late_one m hm xs i) (Flo.Ev.refl Ieee.single (inputOf xs i))
    show EvP (stepS m (st1 m (inputOf (0 :: xs)) (i + 1)) (inputOf (0 :: xs) (i + 1))) (stepS m (st1 m (inputOf xs) i) (inputOf xs i))
    rw [input_late]
    exact h
theorem fold_ev (g h : M4 → Nat × Nat) : ∀ (l : List M4) (a b : Nat), EvS a b → (∀ m ∈ l, EvP (g m) (h m)) → EvS ((l.map g).foldl (fun y s => opB .add .f32 y s.1) a) ((l.map h).foldl (fun y s => opB .add .f32 y s.1) b)
  | [], _, _, k, _ => k
  | m :: l, a, b, k, hl => fold_ev g h l _ _ (opB_add_ev .f32 k (hl m (List.mem_cons_self ..)).1) (fun m hm => hl m (List.mem_cons_of_mem _ hm))
theorem late_out (ms : List M4) (hms : ∀ m ∈ ms, m.ok) (xs : List Nat) (i : Nat) : EvS (outS (stAt ms (inputOf (0 :: xs)) (i + 2))) (outS (stAt ms (inputOf xs) (i + 1))) := by
  rw [stAt_map, stAt_map]
  exact fold_ev _ _ ms 0 0 (Flo.Ev.refl _ _) (fun m hm => late_one m (hms m hm) xs (i + 1))

/-- equal numbers compare so -/
theorem ev_order {a b : Nat} (h : EvS a b) (ha : Sm a) : (FloatKind.f32.format.order a b == some .eq) = true := by
  rw [show FloatKind.f32.format = Ieee.single from rfl, beq_iff_eq]
  rcases h with rfl | ⟨⟨s, p, h1⟩, ⟨t, q, h2⟩⟩
  · exact (Flo.order_num Ieee.single a a ha ha).2.1.2 rfl
  · refine (Flo.order_num Ieee.single a b ⟨_, _, _, h1⟩ ⟨_, _, _, h2⟩).2.1.2 ?_
    rw [Flo.V_eq h1, Flo.V_eq h2, Flo.val_zero, Flo.val_zero]

/-! ### the factor 1 -/
theorem one_read : Ieee.single.read 1065353216 = .number false 8388608 (-23) := by decide
theorem product_one (s : Bool) (m : Nat) (p : Int) : Ieee.Datum.product (.number s m p) (.number false 8388608 (-23)) = some (.number s (m * 8388608) (p + -23)) := by
  simp only [Ieee.Datum.product, Bool.xor_false]
theorem mul_one_bits {q : Nat} {s : Bool} {m : Nat} {p : Int} (h : Ieee.single.read q = .number s m p) : Ieee.single.mul q 1065353216 = some (Ieee.single.write (.number s (m * 8388608) (p + -23))) := by
  unfold Ieee.Format.mul
  rw [h, one_read, product_one]
  rfl
theorem opB_mul_of {x y r : Nat} (h : Ieee.single.mul x y = some r) : opB .mul .f32 x y = r := by
  have h2 : floatBits .mul .f32 x y = some r := h
  unfold opB; rw [h2]; rfl
theorem scale_same (s : Bool) (m : Nat) (p : Int) (hm : m ≠ 0) : Ieee.single.write (.number s (m * 8388608) (p + -23)) = Ieee.single.write (.number s m p) := by
  refine Flo.write_same Ieee.single s _ _ _ _ (by omega) ?_
  have := Flo.pw_neg_mul 23
  rw [show Flo.pw 23 = 8388608 from Flo.pw_nat 23] at this
  rw [Flo.pw_add, Rat.natCast_mul]
  have e2 : ((8388608 : Nat) : Rat) = 8388608 := rfl
  rw [e2]
  have h3 : (m : Rat) * Flo.pw p * (Flo.pw (-23) * 8388608) = (m : Rat) * Flo.pw p := by rw [this]; grind
  grind
theorem scale_zero (s : Bool) (p q : Int) : Ieee.single.write (.number s 0 p) = Ieee.single.write (.number s 0 q) := by
  have z0 : ∀ j : Int, Ieee.single.write (.number s 0 j) = Ieee.single.word s 0 := fun j => by simp only [Ieee.Format.write, Ieee.Format.nearest, if_true]
  rw [z0, z0]
theorem bin_inf : Ieee.single.binade ≤ Ieee.single.infRung := by decide
theorem mul_one_read {q : Nat} (h : Sm q) : Ieee.single.read (opB .mul .f32 q 1065353216) = Ieee.single.read q := by
  obtain ⟨s, m, p, h⟩ := h
  rw [opB_mul_of (mul_one_bits h)]
  have k := Flo.read_back Ieee.single bin_inf h
  by_cases hm : m = 0
  · subst hm
    rw [Nat.zero_mul, scale_zero s (p + -23) p, k, h]
  · rw [scale_same s m p hm, k, h]
theorem wid_read_eq {a b : Nat} (h : Ieee.single.read a = Ieee.single.read b) : wid a = wid b := by
  unfold wid FloatKind.encode FloatKind.decode
  rw [show FloatKind.f32.format = Ieee.single from rfl, h]
theorem step_one (m : M4) (hm : m.ok) (s : Nat × Nat) (x : Nat) : stepS (dampM 1065353216 m) s x = stepS m s x := by
  obtain ⟨n1, n2, n3, n4⟩ := hm.nums
  have e1 := wid_read_eq (mul_one_read n1)
  have e2 := wid_read_eq (mul_one_read n2)
  unfold stepS mulSre mulSim dampM
  simp only [e1, e2]
theorem stepAll_one (ms : List M4) (hms : ∀ m ∈ ms, m.ok) (x : Nat) : ∀ ss, stepAll (ms.map (dampM 1065353216)) ss x = stepAll ms ss x := by
  unfold stepAll
  induction ms with
  | nil => intro ss; rfl
  | cons m l ih =>
    intro ss
    cases ss with
    | nil => rfl
    | cons s ss =>
      simp only [List.map_cons, List.zipWith_cons_cons]
      rw [step_one m (hms m (List.mem_cons_self ..)), ih (fun m hm => hms m (List.mem_cons_of_mem _ hm))]
theorem tAt_one (ms : List M4) (hms : ∀ m ∈ ms, m.ok) (f : Nat) (x : Nat → Nat) : ∀ i, tAt ms (ms.map (dampM 1065353216)) f x i = stAt ms x i
  | 0 => rfl
  | i + 1 => by
    unfold tAt stAt
    rw [tAt_one ms hms f x i]
    split
    · rw [stepAll_one ms hms]
    · rfl
theorem stAt_one (ms : List M4) (hms : ∀ m ∈ ms, m.ok) (x : Nat → Nat) : ∀ i, stAt (ms.map (dampM 1065353216)) x i = stAt ms x i
  | 0 => by simp [stAt]
  | i + 1 => by
    unfold stAt
    rw [stAt_one ms hms x i, stepAll_one ms hms]
theorem tAt_never (ms ds : List M4) (f : Nat) (x : Nat → Nat) : ∀ i, i ≤ f → tAt ms ds f x i = stAt ms x i
  | 0, _ => rfl
  | i + 1, h => by
    unfold tAt stAt
    rw [tAt_never ms ds f x i (by omega), if_neg (by omega)]
theorem tAt_once (ms ds : List M4) (hl : ds.length = ms.length) (x : Nat → Nat) : ∀ i, tAt ms ds 0 x i = stAt ds x i
  | 0 => by simp [tAt, stAt, hl, List.map_const']
  | i + 1 => by
    unfold tAt stAt
    rw [tAt_once ms ds hl x i, if_pos (Nat.zero_le _)]

theorem touch_one (ms : List M4) (hms : ∀ m ∈ ms, m.ok) (f n : Nat) (x : Nat → Nat) (h1 : RingOk ms x n) (h2 : RingOk (ms.map (dampM 1065353216)) x n) :
    TouchOk ms (ms.map (dampM 1065353216)) f x n ∧ touchS ms (ms.map (dampM 1065353216)) f x n = ringS ms x n := by
  constructor
  · intro i hi
    rw [tAt_one ms hms, tAt_one ms hms]
    refine ⟨?_, (h1 i hi).2⟩
    split
    · have h := (h2 i hi).1
      rw [stAt_one ms hms] at h
      exact h
    · exact (h1 i hi).1
  · unfold touchS ringS
    simp only [tAt_one ms hms]
theorem touch_never (ms ds : List M4) (n : Nat) (x : Nat → Nat) (h1 : RingOk ms x n) : TouchOk ms ds n x n ∧ touchS ms ds n x n = ringS ms x n := by
  constructor
  · intro i hi
    rw [tAt_never ms ds n x i (by omega), tAt_never ms ds n x (i + 1) (by omega), if_neg (by omega)]
    exact h1 i hi
  · unfold touchS ringS
    apply List.map_congr_left
    intro i hi
    rw [tAt_never ms ds n x (i + 1) (by have := List.mem_range.1 hi; omega)]
theorem touch_once (ms ds : List M4) (hl : ds.length = ms.length) (n : Nat) (x : Nat → Nat) (h1 : RingOk ds x n) : TouchOk ms ds 0 x n ∧ touchS ms ds 0 x n = ringS ds x n := by
  constructor
  · intro i hi
    rw [tAt_once ms ds hl, tAt_once ms ds hl, if_pos (Nat.zero_le _)]
    exact h1 i hi
  · unfold touchS ringS
    simp only [tAt_once ms ds hl]

/-! ### where nothing overflows -/
theorem ring_small (ms : List M4) (hms : ∀ m ∈ ms, m.ok) (q n : Nat) (hq : ms.length = q) (hq5 : q ≤ 5) (hn : n ≤ 100) (xs : List Nat) (hxs : xs.length ≤ 20) (hsm : ∀ x ∈ xs, Sm x ∧ Flo.Ab (S x) 5) :
    RingOk ms (inputOf xs) n ∧ ∀ x ∈ ringS ms (inputOf xs) n, Sm x := by
  have hG : rs gm ms ≤ 10240 ∧ 0 ≤ rs gm ms := by
    have h1 := rs_max gm 2048 ms (fun m hm => (gain_ok m (hms m hm)).2.2)
    have h2 : (ms.length : Rat) ≤ 5 := by
      have : ((ms.length : Nat) : Rat) ≤ ((5 : Nat) : Rat) := by exact_mod_cast (by omega : ms.length ≤ 5)
      exact this
    exact ⟨by grind, rs_nonneg gm _ (fun m _ => gm_nonneg m)⟩
  have hX : xsum xs ≤ 100 := by
    have h1 := xsum_le xs 5 (fun x hx => ra_le (hsm x hx).2)
    have h2 : ((xs.length : Nat) : Rat) ≤ ((20 : Nat) : Rat) := by exact_mod_cast hxs
    have h3 : ((20 : Nat) : Rat) = 20 := rfl
    grind
  have hgx : rs gm ms * xsum xs ≤ 1024000 := by
    have h1 := Rat.mul_le_mul_of_nonneg_right hG.1 (xsum_nonneg xs)
    grind
  have hP100 : (1024000 : Rat) ≤ Flo.pw 100 := by
    have h1 : Flo.pw 40 ≤ Flo.pw 100 := Flo.pw_le (by omega)
    rw [show Flo.pw 40 = 1099511627776 from Flo.pw_nat 40] at h1
    grind
  have hD := drift_ok ms hms (inputOf xs) n q hq (by omega) (by omega) (by
      intro i _
      by_cases hi : i < xs.length
      · have e : xs[i]? = some xs[i] := List.getElem?_eq_getElem hi
        rw [show inputOf xs i = xs[i] from by unfold inputOf; rw [List.getD_eq_getElem?_getD, e]; rfl]
        exact (hsm _ (List.getElem_mem hi)).1
      · rw [show inputOf xs i = 0 from by unfold inputOf; rw [List.getD_eq_getElem?_getD, List.getElem?_eq_none (by omega)]; rfl]
        exact zero_single.1) (xsum xs) (fun i _ => by rw [psum_xsum]; exact xsum_take_le _ i) (xsum_nonneg _) (by grind)
  refine ⟨hD.1, fun x hx => ?_⟩
  obtain ⟨i, hi, rfl⟩ := List.mem_map.1 hx
  exact (hD.2.2.1 i (List.mem_range.1 hi)).1

/-! ### the factors -/
def facB (z : Nat) : Nat := opB .quo .f32 (floatOfInt .f32 (z : Int)) 1132396544
def facOk (z : Nat) : Bool := (floatBits .quo .f32 (floatOfInt .f32 (z : Int)) 1132396544).isSome && fin .f32 (facB z) &&
  (FloatKind.f32.format.order (facB z) 0 == some .gt || FloatKind.f32.format.order (facB z) 0 == some .eq) && (FloatKind.f32.format.order (facB z) 1065353216 == some .lt || FloatKind.f32.format.order (facB z) 1065353216 == some .eq)
set_option maxRecDepth 100000 in
theorem fac_all : ((List.range 256).all facOk) = true := by decide +kernel
theorem fac_ok (z : Nat) (hz : z ≤ 255) : Calm .quo .f32 (floatOfInt .f32 (z : Int)) 1132396544 ∧ Sm (facB z) ∧ 0 ≤ S (facB z) ∧ S (facB z) ≤ 1 := by
  have h := fac_all
  rw [List.all_eq_true] at h
  have h := h z (List.mem_range.2 (by omega))
  unfold facOk at h
  simp only [Bool.and_eq_true] at h
  obtain ⟨⟨⟨h1, h2⟩, h3⟩, h4⟩ := h
  obtain ⟨r, hr⟩ := Option.isSome_iff_exists.1 h1
  have sm := Sm_of h2
  have n1 : Sm 1065353216 ∧ S 1065353216 = 1 := by
    have h : Ieee.single.read 1065353216 = .number false 8388608 (-23) := by decide
    refine ⟨⟨_, _, _, h⟩, ?_⟩
    rw [show S 1065353216 = _ from Flo.V_eq h]
    unfold Flo.val
    have := Flo.pw_neg_mul 23
    rw [show Flo.pw 23 = 8388608 from Flo.pw_nat 23] at this
    simp only [Bool.false_eq_true, if_false]
    have e2 : ((8388608 : Nat) : Rat) = 8388608 := rfl
    rw [e2]; grind
  have o0 := Flo.order_num Ieee.single (facB z) 0 sm zero_single.1
  have o1 := Flo.order_num Ieee.single (facB z) 1065353216 sm n1.1
  have z0 : Flo.V Ieee.single 0 = 0 := zero_single.2
  have z1 : Flo.V Ieee.single 1065353216 = 1 := n1.2
  rw [show FloatKind.f32.format = Ieee.single from rfl, Bool.or_eq_true, beq_iff_eq, beq_iff_eq, o0.2.2, o0.2.1, z0] at h3
  rw [show FloatKind.f32.format = Ieee.single from rfl, Bool.or_eq_true, beq_iff_eq, beq_iff_eq, o1.1, o1.2.1, z1] at h4
  have h3' : 0 < S (facB z) ∨ S (facB z) = 0 := h3
  have h4' : S (facB z) < 1 ∨ S (facB z) = 1 := h4
  exact ⟨(Calm.of hr).1, sm, by grind, by grind⟩

end Go.Proofs.Ytfgofmcpgfofaaa
