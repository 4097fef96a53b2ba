/- Plain: the fits by quotients and by least squares, and the fit of the start, near the numbers that were rung.
   Conditions: those that each statement names. -/
import Derived.Test.YtlhhcchncobmhaaFitR
namespace Go.Proofs.Ytlhhcchncobmhaa
set_option linter.unusedSimpArgs false
set_option linter.unusedVariables false
open Go Go.RowKit

theorem quo_sz (D N : Nat × Nat) (hD : Okz D) (mD : Mid D) (n1 : Flo.Nm N.1) (n2 : Flo.Nm N.2) (q1 q2 Q T A : Rat) (hQ : 1 ≤ Q) (hT : T = 2 * Q + 1) (hT9 : T ≤ 9) (t1 : Flo.Ab q1 Q) (t2 : Flo.Ab q2 Q) (hA : A ≤ 1 / 2)
    (h : Sz (Flo.W N.1 - (Flo.W D.1 * q1 - Flo.W D.2 * q2)) (Flo.W N.2 - (Flo.W D.1 * q2 + Flo.W D.2 * q1)) A (nz D)) :
    ∃ e f, divD N.1 N.2 D.1 D.2 = some (e, f) ∧ Flo.Nm e ∧ Flo.Nm f ∧ Flo.Ab (Flo.W e - q1) (248 * (Flo.u * T) + 3 * A) ∧ Flo.Ab (Flo.W f - q2) (248 * (Flo.u * T) + 3 * A) := by
  obtain ⟨C, ⟨c1, c2⟩, c3, c4, c5, -, c7⟩ := part_of D _ _ mD.1 mD.2 (-201) 200 (by omega) (by omega)
  have C0 : 0 < C := by have := Flo.pw_pos (-201); grind
  obtain ⟨A0, -, hsum⟩ := h
  have hY : 0 ≤ 3 / 2 * A * C := Rat.mul_nonneg (Rat.mul_nonneg (by grind) A0) (Rat.le_of_lt C0)
  have k1 := Rat.mul_le_mul_of_nonneg_left c7 (Rat.mul_nonneg A0 A0)
  have k2 := Rat.mul_nonneg (Rat.mul_nonneg A0 A0) (sq_nonneg' C)
  have a1 := sq_nonneg' (Flo.W N.1 - (Flo.W D.1 * q1 - Flo.W D.2 * q2))
  have a2 := sq_nonneg' (Flo.W N.2 - (Flo.W D.1 * q2 + Flo.W D.2 * q1))
  have e1 : Flo.pw (-500) ≤ Flo.pw (-201) := Flo.pw_le (by omega)
  have e2 : Flo.pw 200 ≤ Flo.pw 500 := Flo.pw_le (by omega)
  obtain ⟨e, f, g1, g2, g3, g4, g5⟩ := quo_gen N D n1 n2 hD.1 hD.2.1 q1 q2 C (3 / 2 * A) Q T hQ hT hT9 C0 (by rcases c3 with c | c; exact .inl (ra_eq_or c); exact .inr (ra_eq_or c)) c4 c5 (by grind) (by grind) t1 t2 (by grind) (by grind) (ab_of_sq hY (by grind)) (ab_of_sq hY (by grind))
  exact ⟨e, f, g1, g2, g3, g4.mono (by grind), g5.mono (by grind)⟩

theorem sumQ_const (c : Rat) : ∀ n : Nat, sumQ (fun _ => c) n = (n : Rat) * c
  | 0 => by simp [sumQ]
  | n + 1 => by
    have i := sumQ_const c n
    have ek : ((n + 1 : Nat) : Rat) = (n : Rat) + 1 := by push_cast; rfl
    simp only [sumQ]
    rw [i, ek]
    grind
theorem sumQ_off {f : Nat → Rat} {c e : Rat} (n : Nat) (h : ∀ k, k < n → Flo.Ab (f k - c) e) : Flo.Ab (sumQ f n - (n : Rat) * c) ((n : Rat) * e) := by
  induction n with
  | zero => exact ⟨by simp [sumQ]; grind, by simp [sumQ]; grind⟩
  | succ m ih =>
    have ek : ((m + 1 : Nat) : Rat) = (m : Rat) + 1 := by push_cast; rfl
    simp only [sumQ]
    rw [ek]
    exact (((ih (fun j hj => h j (by omega))).add (h m (by omega))).eq (by grind)).mono (by grind)
theorem sumQ_scale (c : Rat) (f : Nat → Rat) : ∀ n : Nat, sumQ (fun k => c * f k) n = c * sumQ f n
  | 0 => by simp [sumQ]
  | n + 1 => by simp only [sumQ]; rw [sumQ_scale c f n]; grind
theorem sumQ_add (f g : Nat → Rat) : ∀ n : Nat, sumQ (fun k => f k + g k) n = sumQ f n + sumQ g n
  | 0 => by simp [sumQ]; grind
  | n + 1 => by simp only [sumQ]; rw [sumQ_add f g n]; grind
theorem sumQ_sub (f g : Nat → Rat) : ∀ n : Nat, sumQ (fun k => f k - g k) n = sumQ f n - sumQ g n
  | 0 => by simp [sumQ]; grind
  | n + 1 => by simp only [sumQ]; rw [sumQ_sub f g n]; grind
theorem sumQ_congr {f g : Nat → Rat} (h : ∀ k, f k = g k) (n : Nat) : sumQ f n = sumQ g n := by
  rw [show f = g from funext h]
theorem range_at {α : Type} (F : Nat → α) (m k : Nat) (x : α) (hx : ((List.range m).map F)[k]? = some x) : k < m ∧ x = F k := by
  by_cases hk : k < m
  · rw [List.getElem?_map, List.getElem?_range hk] at hx
    simp only [Option.map_some, Option.some.injEq] at hx
    exact ⟨hk, hx.symm⟩
  · rw [List.getElem?_eq_none (by simp; omega)] at hx; cases hx

theorem Fair.part {p s : Nat × Nat} (F : Fair p s) : Flo.Ab (Flo.W p.1) (9 / 8) ∧ Flo.Ab (Flo.W p.2) (9 / 8) := by
  have h := F.p2
  unfold nz at h
  have := sq_nonneg' (Flo.W p.1)
  have := sq_nonneg' (Flo.W p.2)
  exact ⟨ab_of_sq (by grind) (by grind), ab_of_sq (by grind) (by grind)⟩
/-- one round, by the number that rings -/
theorem ring_near {p s : Nat × Nat} (F : Fair p s) (k : Nat) (hk : k ≤ 50) : Sz (Flo.W (ringB p s (k + 1)).1 - (Flo.W (ringB p s k).1 * Flo.W p.1 - Flo.W (ringB p s k).2 * Flo.W p.2)) (Flo.W (ringB p s (k + 1)).2 - (Flo.W (ringB p s k).1 * Flo.W p.2 + Flo.W (ringB p s k).2 * Flo.W p.1)) (9 * Flo.u) (nz (ringB p s k)) := by
  have h := ring_one F k hk
  have z0 := nz_nonneg (ringB p s k)
  have u0 := Flo.u_pos
  have a := Rat.mul_le_mul_of_nonneg_left F.p2 z0
  exact (h.scale (B := 9 / 8) (by grind) z0 (by grind)).mono (by grind)

def quoB (p s : Nat × Nat) (k : Nat) : Nat × Nat := (divD (ringB p s (k + 1)).1 (ringB p s (k + 1)).2 (ringB p s k).1 (ringB p s k).2).getD (0, 0)
def FitTold (p : Nat × Nat) (B : Rat) (q : Nat × Nat) : Prop := Flo.Nm q.1 ∧ Flo.Nm q.2 ∧ Flo.Ab (Flo.W q.1 - Flo.W p.1) B ∧ Flo.Ab (Flo.W q.2 - Flo.W p.2) B

theorem fitQ_told {p s : Nat × Nat} (F : Fair p s) (n : Nat) (h2 : 2 ≤ n) (hn : n ≤ 41) :
    ∃ qs ss S r, QuoOk ((List.range n).map (ringB p s)) qs ∧ SumsOk qs ss ∧ ss[n - 1]? = some S ∧ Wz S ∧ divD S.1 S.2 (floatOfInt .f64 ((n - 1 : Nat) : Int)) 0 = some (r.1, r.2) ∧ FitTold p (3900 * Flo.u) r := by
  have u0 := Flo.u_pos
  have u1 := u_tin
  obtain ⟨pp1, pp2⟩ := F.part
  have hq : ∀ k, k < n - 1 → divD (ringB p s (k + 1)).1 (ringB p s (k + 1)).2 (ringB p s k).1 (ringB p s k).2 = some ((quoB p s k).1, (quoB p s k).2) ∧ Flo.Nm (quoB p s k).1 ∧ Flo.Nm (quoB p s k).2 ∧ Flo.Ab (Flo.W (quoB p s k).1 - Flo.W p.1) (840 * Flo.u) ∧ Flo.Ab (Flo.W (quoB p s k).2 - Flo.W p.2) (840 * Flo.u) := by
    intro k hk
    have R := ring_all F k (by omega)
    have R1 := ring_all F (k + 1) (by omega)
    obtain ⟨e, f, g1, g2, g3, g4, g5⟩ := quo_sz (ringB p s k) (ringB p s (k + 1)) R.ok (R.mid (by omega)) R1.ok.1 R1.ok.2.1 (Flo.W p.1) (Flo.W p.2) (9 / 8) (13 / 4) (9 * Flo.u) (by grind) (by grind) (by grind) pp1 pp2 (by grind) (ring_near F k (by omega))
    have eq : quoB p s k = (e, f) := by unfold quoB; rw [g1]; rfl
    rw [eq]
    exact ⟨g1, g2, g3, g4.mono (by grind), g5.mono (by grind)⟩
  obtain ⟨m, hm⟩ : ∃ m, m = n - 1 := ⟨_, rfl⟩
  rw [← hm] at hq ⊢
  have hm1 : (1 : Rat) ≤ (m : Rat) := by have := natR_le (show 1 ≤ m by omega); simpa using this
  have hm2 : (m : Rat) ≤ 40 := by have := natR_le (show m ≤ 40 by omega); simpa using this
  have lo : Flo.pw (-500) ≤ 1 := by have : Flo.pw (-500) ≤ Flo.pw 0 := Flo.pw_le (by omega); rwa [Flo.pw_zero] at this
  have hi : (128 : Rat) ≤ Flo.pw 500 := by have : Flo.pw 7 ≤ Flo.pw 500 := Flo.pw_le (by omega); rwa [show Flo.pw 7 = 128 from Flo.pw_nat 7] at this
  have acc := acc_near (quoB p s) (fun _ => 2) m (by omega) (fun k hk => by
      obtain ⟨-, b1, b2, b3, b4⟩ := hq k hk
      exact ⟨⟨b1, b2⟩, ((b3.add pp1).eq (show _ = Flo.W (quoB p s k).1 by grind)).mono (by grind), ((b4.add pp2).eq (show _ = Flo.W (quoB p s k).2 by grind)).mono (by grind)⟩) (2 * (m : Rat)) (by rw [sumQ_const]; grind) (by grind) (by grind) m (by omega)
  obtain ⟨a1, a2, a3, a4⟩ := acc
  obtain ⟨b1, b2⟩ := acc_sums (quoB p s) m a4
  have s1 := sumQ_off (f := fun i => Flo.W (quoB p s i).1) m (fun k hk => (hq k hk).2.2.2.1)
  have s2 := sumQ_off (f := fun i => Flo.W (quoB p s i).2) m (fun k hk => (hq k hk).2.2.2.2)
  have mm : (m : Rat) * (m : Rat) ≤ 40 * (m : Rat) := Rat.mul_le_mul_of_nonneg_right hm2 (by grind)
  have umm := Rat.mul_le_mul_of_nonneg_left mm (Rat.le_of_lt u0)
  have um := Rat.mul_nonneg (Rat.le_of_lt u0) (show 0 ≤ (m : Rat) by grind)
  have dm := Flo.dy_int (m : Int) (by omega)
  have wm : Flo.W (floatOfInt .f64 (m : Int)) = (m : Rat) := by rw [dm.2, Flo.pw_zero]; push_cast; grind
  obtain ⟨e, f, g1, g2, g3, g4, g5⟩ := quo_gen (accB (quoB p s) m) (floatOfInt .f64 (m : Int), 0) a1.1 a1.2.1 dm.1 zero_num.1 (Flo.W p.1) (Flo.W p.2) (m : Rat) (1080 * Flo.u) (9 / 8) (13 / 4) (by grind) (by grind) (by grind) (by grind) (.inl (.inl wm)) (by rw [wm]; exact ⟨by grind, by grind⟩) (by rw [zero_num.2]; exact ⟨by grind, by grind⟩) (by grind) (by grind) pp1 pp2 (by grind) (by grind)
    (by rw [wm, zero_num.2]; exact ((a2.add s1).eq (by grind)).mono (by grind))
    (by rw [wm, zero_num.2]; exact ((a3.add s2).eq (by grind)).mono (by grind))
  refine ⟨_, _, accB (quoB p s) m, (e, f), ⟨by simp; omega, ?_, ?_⟩, b1, b2, a1.2.2, g1, g2, g3, g4.mono (by grind), g5.mono (by grind)⟩
  · intro z hz
    obtain ⟨k, hk, rfl⟩ := List.mem_map.1 hz
    rw [List.mem_range] at hk
    exact (ring_all F k (by omega)).ok.2.2
  · intro k a b q ha hb hqk
    obtain ⟨-, rfl⟩ := range_at _ _ _ _ ha
    obtain ⟨-, rfl⟩ := range_at _ _ _ _ hb
    obtain ⟨hk, rfl⟩ := range_at _ _ _ _ hqk
    exact (hq k hk).1

/-! ### sums of products with conjugates -/
theorem conj_ok {z : Nat × Nat} (h : Okz z) : Okz (conjZ z) ∧ Flo.W (conjZ z).1 = Flo.W z.1 ∧ Flo.W (conjZ z).2 = -Flo.W z.2 ∧ nz (conjZ z) = nz z := by
  obtain ⟨h1, h2, h3, h4⟩ := h
  obtain ⟨s, m, q, hr⟩ := h2
  have hn := neg_read z.2 h4 s m q hr
  have hw : Flo.W (Op.negFloat .f64 z.2) = -Flo.W z.2 := by
    rw [show Flo.W (Op.negFloat .f64 z.2) = _ from Flo.V_eq hn, show Flo.W z.2 = _ from Flo.V_eq hr, Flo.val_opp]
  refine ⟨⟨h1, ⟨_, _, _, hn⟩, h3, ?_⟩, rfl, hw, ?_⟩
  · show z.2 ^^^ 2 ^ 63 < 2 ^ 64
    exact Nat.xor_lt_two_pow h4 (by decide)
  · show Flo.W z.1 * Flo.W z.1 + Flo.W (Op.negFloat .f64 z.2) * Flo.W (Op.negFloat .f64 z.2) = _
    rw [hw]; unfold nz; grind

theorem conj_sum (a b : Nat → Nat × Nat) (m : Nat) (hm : m ≤ 41) (ha : ∀ k, k < m → Okz (a k) ∧ Mid (a k)) (hb : ∀ k, k < m → Okz (b k) ∧ Mid (b k)) (h : Nat → Rat) (hh : ∀ k, k < m → 0 ≤ h k ∧ nz (a k) * nz (b k) ≤ h k * h k) (D : Rat) (hD : 2 * sumQ h m ≤ D) (d1 : Flo.pw (-500) ≤ D) (d2 : D ≤ Flo.pw 500) :
    ∃ s, SumTold ((List.range m).map a) ((List.range m).map b) s ∧ Okz s ∧ Flo.Ab (Flo.W s.1 - sumQ (fun k => Flo.W (a k).1 * Flo.W (b k).1 + Flo.W (a k).2 * Flo.W (b k).2) m) (127 * (Flo.u * D)) ∧
      Flo.Ab (Flo.W s.2 - sumQ (fun k => Flo.W (a k).2 * Flo.W (b k).1 - Flo.W (a k).1 * Flo.W (b k).2) m) (127 * (Flo.u * D)) := by
  have u0 := Flo.u_pos
  have u1 := u_tin
  have D0 : 0 ≤ D := by have := Flo.pw_pos (-500); grind
  have uD0 := Rat.mul_nonneg (Rat.le_of_lt u0) D0
  have hp : ∀ k, k < m → mulC (fabC (a k)) (fabC (conjZ (b k))) = (some (mulB (a k) (conjZ (b k))).1, some (mulB (a k) (conjZ (b k))).2) ∧ Okz (mulB (a k) (conjZ (b k))) ∧
      Flo.Ab (Flo.W (mulB (a k) (conjZ (b k))).1 - (Flo.W (a k).1 * Flo.W (b k).1 + Flo.W (a k).2 * Flo.W (b k).2)) (8 * Flo.u * h k) ∧
      Flo.Ab (Flo.W (mulB (a k) (conjZ (b k))).2 - (Flo.W (a k).2 * Flo.W (b k).1 - Flo.W (a k).1 * Flo.W (b k).2)) (8 * Flo.u * h k) ∧
      Flo.Ab (Flo.W (a k).1 * Flo.W (b k).1 + Flo.W (a k).2 * Flo.W (b k).2) (h k) ∧ Flo.Ab (Flo.W (a k).2 * Flo.W (b k).1 - Flo.W (a k).1 * Flo.W (b k).2) (h k) := by
    intro k hk
    obtain ⟨o1, o2⟩ := ha k hk
    obtain ⟨o3, o4⟩ := hb k hk
    obtain ⟨c1, c2, c3, c4⟩ := conj_ok o3
    obtain ⟨h0, h1⟩ := hh k hk
    obtain ⟨m1, m2, m3⟩ := mulB_sz (a k) (conjZ (b k)) o1 c1 o2 (by unfold Mid; rw [c4]; exact o4)
    rw [c2, c3, c4] at m3
    have q := (m3.scale (B := 1) (k := h k * h k) (by grind) (Rat.mul_nonneg h0 h0) (by grind)).parts h0
    have r := (((Sz.self (Flo.W (a k).1) (Flo.W (a k).2)).mul (Sz.self (Flo.W (b k).1) (Flo.W (b k).2)).conj).scale (B := 1) (k := h k * h k) (by grind) (Rat.mul_nonneg h0 h0) (by show nz (a k) * nz (b k) ≤ _; grind)).parts h0
    refine ⟨m1, m2, (q.1.eq (by grind)).mono (by grind), (q.2.eq (by grind)).mono (by grind), (r.1.eq (by grind)).mono (by grind), (r.2.eq (by grind)).mono (by grind)⟩
  have acc := acc_near (fun k => mulB (a k) (conjZ (b k))) (fun k => 2 * h k) m (by omega) (fun k hk => by
      obtain ⟨-, b1, b2, b3, b4, b5⟩ := hp k hk
      have h0 := (hh k hk).1
      have uh : Flo.u * h k * 1048576 ≤ h k := by have := Rat.mul_le_mul_of_nonneg_right u1 h0; grind
      exact ⟨⟨b1.1, b1.2.1⟩, ((b2.add b4).eq (show _ = Flo.W (mulB (a k) (conjZ (b k))).1 by grind)).mono (by grind), ((b3.add b5).eq (show _ = Flo.W (mulB (a k) (conjZ (b k))).2 by grind)).mono (by grind)⟩) D (by rw [sumQ_scale]; exact hD) d1 d2 m (by omega)
  obtain ⟨a1, a2, a3, a4⟩ := acc
  obtain ⟨b1, b2⟩ := acc_sums (fun k => mulB (a k) (conjZ (b k))) m a4
  have hm2 : (m : Rat) ≤ 41 := by have := natR_le hm; simpa using this
  have mu : (m : Rat) * (3 * (Flo.u * D)) ≤ 41 * (3 * (Flo.u * D)) := Rat.mul_le_mul_of_nonneg_right hm2 (by grind)
  have s1 := sumQ_ab (f := fun k => Flo.W (mulB (a k) (conjZ (b k))).1 - (Flo.W (a k).1 * Flo.W (b k).1 + Flo.W (a k).2 * Flo.W (b k).2)) (g := fun k => 8 * Flo.u * h k) m (fun k hk => (hp k hk).2.2.1)
  have s2 := sumQ_ab (f := fun k => Flo.W (mulB (a k) (conjZ (b k))).2 - (Flo.W (a k).2 * Flo.W (b k).1 - Flo.W (a k).1 * Flo.W (b k).2)) (g := fun k => 8 * Flo.u * h k) m (fun k hk => (hp k hk).2.2.2.1)
  rw [sumQ_scale, sumQ_sub] at s1 s2
  have uS := Rat.mul_le_mul_of_nonneg_left hD (Rat.le_of_lt u0)
  refine ⟨_, ⟨a1.2.2, _, _, ⟨by simp, by simp, ?_⟩, b1, by simp⟩, a1, ((a2.add s1).eq (by grind)).mono (by grind), ((a3.add s2).eq (by grind)).mono (by grind)⟩
  intro k x y q hx hy hq
  obtain ⟨hk, rfl⟩ := range_at _ _ _ _ hx
  obtain ⟨-, rfl⟩ := range_at _ _ _ _ hy
  obtain ⟨-, rfl⟩ := range_at _ _ _ _ hq
  exact (hp k hk).1

/-! ### least squares -/
theorem sumQ_pos {f : Nat → Rat} (n : Nat) (h : ∀ k, k < n → 0 ≤ f k) (hn : 0 < n) : f 0 ≤ sumQ f n := by
  have := (sumQ_mono n h 1 hn).2
  simp only [sumQ] at this
  grind
theorem sumQ_lin (f g h : Nat → Rat) (a b : Rat) (n : Nat) : sumQ (fun k => f k - (a * g k - b * h k)) n = sumQ f n - (a * sumQ g n - b * sumQ h n) := by
  rw [sumQ_sub, sumQ_sub, sumQ_scale, sumQ_scale]
theorem sumQ_lin2 (f g h : Nat → Rat) (a b : Rat) (n : Nat) : sumQ (fun k => f k - (a * g k + b * h k)) n = sumQ f n - (a * sumQ g n + b * sumQ h n) := by
  rw [sumQ_sub, sumQ_add, sumQ_scale, sumQ_scale]

theorem sq_c {S W p p' r r' : Rat} (S0 : 0 < S) (C1 : 50 / 51 * S ≤ W) (C2 : W ≤ 2 * S) (l : p ≤ S) (l2 : 2 * p' ≤ p) (h : S ≤ 41 * r) (hi : 1024 * r ≤ r') (r0 : 0 < r) (p0 : 0 < p) : 0 < W ∧ p' ≤ W ∧ W ≤ r' := by
  refine ⟨?_, ?_, ?_⟩ <;> grind
theorem sq_e1 (s A S q1 q2 d e : Rat) : s - A + (A - q1 * S) - (d - S) * q1 + e * q2 = s - (d * q1 - e * q2) := by grind
theorem sq_e2 (s A S q1 q2 d e : Rat) : s - A + (A - q2 * S) - (d - S) * q2 - e * q1 = s - (d * q2 + e * q1) := by grind
theorem sq_m {u K S E Q G W : Rat} (X2 : G * u * (50 / 51 * S) ≤ G * u * W) (h : G * u * S = 254 * (u * (K * S)) + E * (u * S) + 508 * (Q * (u * S))) : 127 * (u * (2 * (K * S))) + E * u * S + 254 * (u * S) * Q + 254 * (u * S) * Q ≤ 51 / 50 * (G * u) * W := by grind
theorem sq_v {u S W : Rat} (S0 : 0 < S) (uS1 : u * S * 1048576 ≤ S) (C1 : 50 / 51 * S ≤ W) : 254 * (u * S) ≤ W := by grind
theorem sq_x {X : Rat} (h : 0 ≤ X) : 0 ≤ 51 / 50 * X ∧ (X ≤ 1 / 10 → 51 / 50 * X ≤ 1) := ⟨by grind, fun _ => by grind⟩
def Near2 (q1 q2 B : Rat) (r : Nat × Nat) : Prop := Flo.Nm r.1 ∧ Flo.Nm r.2 ∧ Flo.Ab (Flo.W r.1 - q1) B ∧ Flo.Ab (Flo.W r.2 - q2) B
/-- the quotient of two sums of products with conjugates: a is near q b -/
theorem squares_near (a b : Nat → Nat × Nat) (m : Nat) (hm0 : 0 < m) (hm : m ≤ 41) (ha : ∀ k, k < m → Okz (a k) ∧ Mid (a k)) (hb : ∀ k, k < m → Okz (b k) ∧ Mid (b k)) (q1 q2 Q T E K G : Rat) (hQ : 1 ≤ Q) (hT : T = 2 * Q + 1) (hT9 : T ≤ 9)
    (t1 : Flo.Ab q1 Q) (t2 : Flo.Ab q2 Q) (hE : 0 ≤ E) (hG : G = 254 * K + E + 508 * Q) (hG2 : G ≤ 100000) (hK : 1 ≤ K) (hK10 : K ≤ 10) (hab : ∀ k, k < m → Sz (Flo.W (a k).1 - (Flo.W (b k).1 * q1 - Flo.W (b k).2 * q2)) (Flo.W (a k).2 - (Flo.W (b k).1 * q2 + Flo.W (b k).2 * q1)) (E * Flo.u) (nz (b k)))
    (hk : ∀ k, k < m → nz (a k) ≤ K * K * nz (b k)) :
    ∃ s1 s2 r, SumTold ((List.range m).map a) ((List.range m).map b) s1 ∧ SumTold ((List.range m).map b) ((List.range m).map b) s2 ∧ Wz s1 ∧ Wz s2 ∧ divD s1.1 s1.2 s2.1 s2.2 = some (r.1, r.2) ∧ Near2 q1 q2 (248 * (Flo.u * T) + 51 / 25 * (G * Flo.u)) r := by
  have u0 := Flo.u_pos
  have u1 := u_tin
  obtain ⟨S, hS⟩ : ∃ S, S = sumQ (fun k => nz (b k)) m := ⟨_, rfl⟩
  have nb : ∀ k, 0 ≤ nz (b k) := fun k => nz_nonneg _
  have S1 : Flo.pw (-400) ≤ S := by
    have := sumQ_pos (f := fun k => nz (b k)) m (fun k _ => nb k) hm0
    have := (hb 0 hm0).2.1
    grind
  have S2 : S ≤ 41 * Flo.pw 400 := by
    have h1 := (sumQ_ab (f := fun k => nz (b k)) (g := fun _ => Flo.pw 400) m (fun k hk => ⟨by have := nb k; have := Flo.pw_pos 400; grind, (hb k hk).2.2⟩)).2
    rw [sumQ_const] at h1
    have hm2 : (m : Rat) ≤ 41 := by have := natR_le hm; simpa using this
    have := Rat.mul_le_mul_of_nonneg_right hm2 (Rat.le_of_lt (Flo.pw_pos 400))
    grind
  have p400 := Flo.pw_pos (-400)
  have S0 : 0 < S := by grind
  have KS : S ≤ K * S := by have := Rat.mul_le_mul_of_nonneg_right hK (Rat.le_of_lt S0); grind
  have KS2 : K * S ≤ 10 * S := Rat.mul_le_mul_of_nonneg_right hK10 (Rat.le_of_lt S0)
  have lo : Flo.pw (-500) ≤ Flo.pw (-400) := Flo.pw_le (by omega)
  have hi : 1024 * Flo.pw 400 ≤ Flo.pw 500 := by
    rw [show (1024 : Rat) = Flo.pw 10 from (Flo.pw_nat 10).symm, ← Flo.pw_add]
    exact Flo.pw_le (by omega)
  obtain ⟨s1, x1, x2, x3, x4⟩ := conj_sum a b m hm ha hb (fun k => K * nz (b k)) (fun k hk' => ⟨Rat.mul_nonneg (by grind) (nb k), by
      have := Rat.mul_le_mul_of_nonneg_right (hk k hk') (nb k)
      grind⟩) (2 * (K * S)) (by rw [sumQ_scale, hS]; grind) (by grind) (by grind)
  obtain ⟨s2, y1, y2, y3, y4⟩ := conj_sum b b m hm hb hb (fun k => nz (b k)) (fun k _ => ⟨nb k, by grind⟩) (2 * S) (by rw [← hS]; grind) (by grind) (by grind)
  have z1 : sumQ (fun k => Flo.W (b k).1 * Flo.W (b k).1 + Flo.W (b k).2 * Flo.W (b k).2) m = S := hS.symm
  have z2 : sumQ (fun k => Flo.W (b k).2 * Flo.W (b k).1 - Flo.W (b k).1 * Flo.W (b k).2) m = 0 := by
    rw [sumQ_congr (g := fun _ => 0) (fun k => by grind), sumQ_const]; grind
  rw [z1] at y3
  rw [z2] at y4
  have r := fun k hk' => ((hab k hk').mul (Sz.self (Flo.W (b k).1) (Flo.W (b k).2)).conj).scale (B := 1) (k := nz (b k) * nz (b k)) (by grind) (Rat.mul_nonneg (nb k) (nb k)) (by show nz (b k) * nz (b k) ≤ _; grind)
  have r1 := sumQ_ab (f := fun k => (Flo.W (a k).1 * Flo.W (b k).1 + Flo.W (a k).2 * Flo.W (b k).2) - q1 * nz (b k)) (g := fun k => E * Flo.u * nz (b k)) m (fun k hk' => ((r k hk').parts (nb k)).1.eq (by unfold nz; grind) |>.mono (by grind))
  have r2 := sumQ_ab (f := fun k => (Flo.W (a k).2 * Flo.W (b k).1 - Flo.W (a k).1 * Flo.W (b k).2) - q2 * nz (b k)) (g := fun k => E * Flo.u * nz (b k)) m (fun k hk' => ((r k hk').parts (nb k)).2.eq (by unfold nz; grind) |>.mono (by grind))
  rw [sumQ_sub, sumQ_scale, sumQ_scale, ← hS] at r1 r2
  have uS := Rat.mul_nonneg (Rat.le_of_lt u0) (Rat.le_of_lt S0)
  have uS1 : Flo.u * S * 1048576 ≤ S := by have := Rat.mul_le_mul_of_nonneg_right u1 (Rat.le_of_lt S0); grind
  have v3 : Flo.Ab (Flo.W s2.1 - S) (254 * (Flo.u * S)) := y3.mono (by grind)
  have v4 : Flo.Ab (Flo.W s2.2) (254 * (Flo.u * S)) := (y4.eq (by grind)).mono (by grind)
  have w1 := v3.mul t1
  have w2 := v4.mul t2
  have w3 := v3.mul t2
  have w4 := v4.mul t1
  have C1 : 50 / 51 * S ≤ Flo.W s2.1 := by unfold Flo.Ab at v3; grind
  have C2 : Flo.W s2.1 ≤ 2 * S := by unfold Flo.Ab at v3; grind
  have lo2 : 2 * Flo.pw (-500) ≤ Flo.pw (-400) := by
    rw [← Flo.pw_succ]
    exact Flo.pw_le (by omega)
  obtain ⟨C5, C3, C4⟩ := sq_c S0 C1 C2 S1 lo2 S2 hi (Flo.pw_pos 400) p400
  have X0 : 0 ≤ G * Flo.u := Rat.mul_nonneg (by grind) (Rat.le_of_lt u0)
  have X1 : G * Flo.u ≤ 1 / 10 := by have := Rat.mul_le_mul_of_nonneg_right hG2 (Rat.le_of_lt u0); grind
  have X2 := Rat.mul_le_mul_of_nonneg_left C1 X0
  have hGS : G * Flo.u * S = 254 * (Flo.u * (K * S)) + E * (Flo.u * S) + 508 * (Q * (Flo.u * S)) := by rw [hG]; grind
  obtain ⟨e, f, g1, g2, g3, g4, g5⟩ := quo_gen s1 s2 x2.1 x2.2.1 y2.1 y2.2.1 q1 q2 (Flo.W s2.1) (51 / 50 * (G * Flo.u)) Q T hQ hT hT9 C5 (.inl (.inl rfl)) ⟨by have := Rat.le_of_lt C5; exact Rat.le_trans (Rat.neg_le_neg this) (by simpa using this), Rat.le_refl⟩ (v4.mono (sq_v S0 uS1 C1)) C3 C4 t1 t2 (sq_x X0).1 ((sq_x X0).2 X1)
    ((((x3.add r1).sub w1).add w2).eq (sq_e1 _ _ _ _ _ _ _) |>.mono (sq_m X2 hGS))
    ((((x4.add r2).sub w3).sub w4).eq (sq_e2 _ _ _ _ _ _ _) |>.mono (sq_m X2 hGS))
  exact ⟨s1, s2, (e, f), x1, y1, x2.2.2, y2.2.2, g1, g2, g3, g4.mono (by grind), g5.mono (by grind)⟩

end Go.Proofs.Ytlhhcchncobmhaa
