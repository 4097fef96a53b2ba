/- Plain: a recording, near the powers of its pole; sums of numbers.
   Conditions: those that each statement names. -/
import Derived.Test.YtlhhcchncobmhaaFitS
import Derived.Test.YtlhhcchncobmhaaFitW
namespace Go.Proofs.Ytlhhcchncobmhaa
set_option linter.unusedSimpArgs false
set_option linter.unusedVariables false
open Go Go.RowKit

def ringB (p s : Nat × Nat) : Nat → Nat × Nat
  | 0 => s
  | k + 1 => mulB (ringB p s k) p
def exR (p s : Rat × Rat) : Nat → Rat × Rat
  | 0 => s
  | k + 1 => ((exR p s k).1 * p.1 - (exR p s k).2 * p.2, (exR p s k).1 * p.2 + (exR p s k).2 * p.1)
def rp (q : Rat) : Nat → Rat
  | 0 => 1
  | k + 1 => rp q k * q
def vz (z : Nat × Nat) : Rat × Rat := (Flo.W z.1, Flo.W z.2)
theorem rp_nonneg {q : Rat} (h : 0 ≤ q) : ∀ k, 0 ≤ rp q k
  | 0 => by unfold rp; decide
  | k + 1 => by have := Rat.mul_nonneg (rp_nonneg h k) h; simpa [rp] using this
theorem rp_le {q : Rat} (h : 0 ≤ q) (h1 : q ≤ 1 + 1 / 1024) : ∀ k : Nat, k ≤ 100 → rp q k ≤ 1 + (k : Rat) / 512
  | 0, _ => by simp [rp]; grind
  | k + 1, hk => by
    have i := rp_le h h1 k (by omega)
    have i0 := rp_nonneg h k
    have hk' : (k : Rat) ≤ 100 := by have : ((k : Nat) : Rat) ≤ ((100 : Nat) : Rat) := Rat.natCast_le_natCast.2 (by omega); simpa using this
    have a1 := Rat.mul_le_mul_of_nonneg_left h1 i0
    have e : ((k + 1 : Nat) : Rat) = (k : Rat) + 1 := by push_cast; rfl
    rw [e]
    show rp q k * q ≤ _
    grind
theorem exR_sq (p s : Rat × Rat) : ∀ k, (exR p s k).1 * (exR p s k).1 + (exR p s k).2 * (exR p s k).2 = (s.1 * s.1 + s.2 * s.2) * rp (p.1 * p.1 + p.2 * p.2) k
  | 0 => by simp [exR, rp]
  | k + 1 => by
    have i := exR_sq p s k
    simp only [exR, rp]
    grind

/-- a pole that a law asks for, and a start -/
structure Fair (p s : Nat × Nat) : Prop where
  pOk : Okz p
  sOk : Okz s
  p1 : 1 ≤ 33 * nz p
  p2 : nz p ≤ 1 + 1 / 1024
  s1 : Flo.pw (-12) ≤ nz s
  s2 : nz s ≤ Flo.pw 24
theorem Fair.midp {p s : Nat × Nat} (h : Fair p s) : Mid p := by
  have e1 : Flo.pw (-6) * 64 = 1 := by
    have a := Flo.pw_neg_mul 6
    rw [show Flo.pw 6 = 64 from Flo.pw_nat 6] at a
    grind
  have e2 : Flo.pw (-400) ≤ Flo.pw (-6) := Flo.pw_le (by omega)
  have e3 : Flo.pw 1 ≤ Flo.pw 400 := Flo.pw_le (by omega)
  rw [Flo.pw_one] at e3
  exact ⟨by have := h.p1; grind, by have := h.p2; grind⟩

structure RingN (p s : Nat × Nat) (k : Nat) : Prop where
  ring : ringC (fabC p) (fabC s) k = (some (ringB p s k).1, some (ringB p s k).2)
  ok : Okz (ringB p s k)
  lo : Flo.pw (-12 - 7 * (k : Int)) ≤ nz (ringB p s k)
  hi : nz (ringB p s k) ≤ Flo.pw (24 + (k : Int))
  err : Sz (Flo.W (ringB p s k).1 - (exR (vz p) (vz s) k).1) (Flo.W (ringB p s k).2 - (exR (vz p) (vz s) k).2) (10 * (k : Rat) * Flo.u) (nz s * rp (nz p) k)
theorem RingN.mid {p s : Nat × Nat} {k : Nat} (h : RingN p s k) (hk : k ≤ 55) : Mid (ringB p s k) := by
  have e1 : Flo.pw (-400) ≤ Flo.pw (-12 - 7 * (k : Int)) := Flo.pw_le (by omega)
  have e2 : Flo.pw (24 + (k : Int)) ≤ Flo.pw 400 := Flo.pw_le (by omega)
  have := h.lo
  have := h.hi
  exact ⟨by grind, by grind⟩
theorem vz_sq (z : Nat × Nat) : (vz z).1 * (vz z).1 + (vz z).2 * (vz z).2 = nz z := rfl
theorem exR_nz (p s : Nat × Nat) (k : Nat) : (exR (vz p) (vz s) k).1 * (exR (vz p) (vz s) k).1 + (exR (vz p) (vz s) k).2 * (exR (vz p) (vz s) k).2 = nz s * rp (nz p) k := by
  rw [exR_sq, vz_sq, vz_sq]

theorem u_tin : Flo.u * 1048576 ≤ 1 := by have := Flo.u_le; grind
theorem natR_le {k n : Nat} (h : k ≤ n) : (k : Rat) ≤ (n : Rat) := Rat.natCast_le_natCast.2 h
/-- one round of a recording -/
theorem ring_step {p s : Nat × Nat} {k : Nat} (F : Fair p s) (h : RingN p s k) (hk : k ≤ 50) :
    RingN p s (k + 1) ∧ Sz (Flo.W (ringB p s (k + 1)).1 - (Flo.W (ringB p s k).1 * Flo.W p.1 - Flo.W (ringB p s k).2 * Flo.W p.2)) (Flo.W (ringB p s (k + 1)).2 - (Flo.W (ringB p s k).1 * Flo.W p.2 + Flo.W (ringB p s k).2 * Flo.W p.1)) (8 * Flo.u) (nz (ringB p s k) * nz p) := by
  have u0 := Flo.u_pos
  have u1 := u_tin
  obtain ⟨m1, m2, m3⟩ := mulB_sz (ringB p s k) p h.ok F.pOk (h.mid (by omega)) F.midp
  have hk0 : (0 : Rat) ≤ (k : Rat) := by have := natR_le (Nat.zero_le k); simpa using this
  have hk1 : (k : Rat) ≤ 50 := by have := natR_le hk; simpa using this
  have z0 := nz_nonneg (ringB p s k)
  have p0 := nz_nonneg p
  have s0 := nz_nonneg s
  have g0 : 0 ≤ nz s * rp (nz p) k := Rat.mul_nonneg s0 (rp_nonneg p0 k)
  have hmul : (Flo.W (ringB p s k).1 * Flo.W p.1 - Flo.W (ringB p s k).2 * Flo.W p.2) * (Flo.W (ringB p s k).1 * Flo.W p.1 - Flo.W (ringB p s k).2 * Flo.W p.2) + (Flo.W (ringB p s k).1 * Flo.W p.2 + Flo.W (ringB p s k).2 * Flo.W p.1) * (Flo.W (ringB p s k).1 * Flo.W p.2 + Flo.W (ringB p s k).2 * Flo.W p.1) = nz (ringB p s k) * nz p := by unfold nz; grind
  have e1 : (k : Rat) * Flo.u ≤ 50 * Flo.u := Rat.mul_le_mul_of_nonneg_right hk1 (Rat.le_of_lt u0)
  have e0 : 0 ≤ (k : Rat) * Flo.u := Rat.mul_nonneg hk0 (Rat.le_of_lt u0)
  refine ⟨⟨?_, m2, ?_, ?_, ?_⟩, m3⟩
  · show mulC (ringC (fabC p) (fabC s) k) (fabC p) = _
    rw [h.ring, ← h.ok.fab]
    exact m1
  · have l := sz_lower (hmul ▸ m3) (by grind)
    rw [hmul] at l
    have l2 : nz (ringB p s k) * 1 ≤ nz (ringB p s k) * (33 * nz p) := Rat.mul_le_mul_of_nonneg_left F.p1 z0
    have l3 : Flo.pw (-12 - 7 * (k : Int)) = 128 * Flo.pw (-12 - 7 * ((k + 1 : Nat) : Int)) := by
      rw [show (128 : Rat) = Flo.pw 7 from (Flo.pw_nat 7).symm, ← Flo.pw_add]
      congr 1
      omega
    have l4 := h.lo
    have l5 : nz (ringB p s (k + 1)) = Flo.W (mulB (ringB p s k) p).1 * Flo.W (mulB (ringB p s k) p).1 + Flo.W (mulB (ringB p s k) p).2 * Flo.W (mulB (ringB p s k) p).2 := rfl
    rw [l5]
    grind
  · have l := (sz_upper (hmul ▸ m3)).mono (show 1 + 8 * Flo.u ≤ 9 / 8 by grind)
    rw [hmul] at l
    have l1 := l.2.2
    have l2 : nz (ringB p s k) * nz p ≤ nz (ringB p s k) * (1 + 1 / 1024) := Rat.mul_le_mul_of_nonneg_left F.p2 z0
    have l3 : Flo.pw (24 + ((k + 1 : Nat) : Int)) = 2 * Flo.pw (24 + (k : Int)) := by
      rw [← Flo.pw_succ]
      congr 1
    have l4 := h.hi
    have l5 : nz (ringB p s (k + 1)) = Flo.W (mulB (ringB p s k) p).1 * Flo.W (mulB (ringB p s k) p).1 + Flo.W (mulB (ringB p s k) p).2 * Flo.W (mulB (ringB p s k) p).2 := rfl
    rw [l5, l3]
    grind
  · have a1 : Sz (exR (vz p) (vz s) k).1 (exR (vz p) (vz s) k).2 1 (nz s * rp (nz p) k) := by
      have := Sz.self (exR (vz p) (vz s) k).1 (exR (vz p) (vz s) k).2
      rwa [exR_nz] at this
    have a2 := (a1.add h.err).mono (show 1 + 10 * (k : Rat) * Flo.u ≤ 9 / 8 by grind)
    have a3 : nz (ringB p s k) ≤ 9 / 8 * (9 / 8) * (nz s * rp (nz p) k) := by
      have := a2.2.2
      have e : nz (ringB p s k) = ((exR (vz p) (vz s) k).1 + (Flo.W (ringB p s k).1 - (exR (vz p) (vz s) k).1)) * ((exR (vz p) (vz s) k).1 + (Flo.W (ringB p s k).1 - (exR (vz p) (vz s) k).1)) + ((exR (vz p) (vz s) k).2 + (Flo.W (ringB p s k).2 - (exR (vz p) (vz s) k).2)) * ((exR (vz p) (vz s) k).2 + (Flo.W (ringB p s k).2 - (exR (vz p) (vz s) k).2)) := by unfold nz; grind
      rw [e]; exact this
    have a4 := Rat.mul_le_mul_of_nonneg_right a3 p0
    have b1 := m3.scale (B := 9 / 8) (k := nz s * rp (nz p) k * nz p) (by grind) (Rat.mul_nonneg g0 p0) (by grind)
    have b2 := h.err.mul (Sz.self (Flo.W p.1) (Flo.W p.2))
    have b3 := (b2.add b1).mono (show 10 * (k : Rat) * Flo.u * 1 + 8 * Flo.u * (9 / 8) ≤ 10 * ((k + 1 : Nat) : Rat) * Flo.u by rw [show ((k + 1 : Nat) : Rat) = (k : Rat) + 1 by push_cast; rfl]; grind)
    have e : nz s * rp (nz p) k * (Flo.W p.1 * Flo.W p.1 + Flo.W p.2 * Flo.W p.2) = nz s * rp (nz p) (k + 1) := by simp only [rp, nz]; grind
    rw [show nz s * rp (nz p) k * (Flo.W p.1 * Flo.W p.1 + Flo.W p.2 * Flo.W p.2) = nz s * rp (nz p) k * nz p from rfl] at b3 e
    rw [e] at b3
    refine b3.eq ?_ ?_
    · simp only [ringB, exR, vz]; grind
    · simp only [ringB, exR, vz]; grind
theorem ring_all {p s : Nat × Nat} (F : Fair p s) : ∀ k : Nat, k ≤ 51 → RingN p s k
  | 0, _ => by
    refine ⟨by simp only [ringC, ringB]; exact F.sOk.fab, F.sOk, by simpa [ringB] using F.s1, by simpa [ringB] using F.s2, ?_⟩
    have := Sz.zero (10 * ((0 : Nat) : Rat) * Flo.u) (nz s * rp (nz p) 0) (by simp) (by simpa [rp] using nz_nonneg s)
    exact this.eq (by simp only [ringB, exR, vz]; grind) (by simp only [ringB, exR, vz]; grind)
  | k + 1, hk => (ring_step F (ring_all F k (by omega)) (by omega)).1
theorem ring_one {p s : Nat × Nat} (F : Fair p s) (k : Nat) (hk : k ≤ 50) : Sz (Flo.W (ringB p s (k + 1)).1 - (Flo.W (ringB p s k).1 * Flo.W p.1 - Flo.W (ringB p s k).2 * Flo.W p.2)) (Flo.W (ringB p s (k + 1)).2 - (Flo.W (ringB p s k).1 * Flo.W p.2 + Flo.W (ringB p s k).2 * Flo.W p.1)) (8 * Flo.u) (nz (ringB p s k) * nz p) := (ring_step F (ring_all F k (by omega)) hk).2
theorem ringing_list {p s : Nat × Nat} (F : Fair p s) (zs : List (Nat × Nat)) (n : Nat) (hn : zs.length = n) (hn2 : n ≤ 51) (h : Ringing (fabC p) (fabC s) zs) : zs = (List.range n).map (ringB p s) := by
  apply List.ext_getElem?
  intro i
  by_cases hi : i < n
  · obtain ⟨z, hz⟩ : ∃ z, zs[i]? = some z := getZ (by omega)
    have h1 := (h i z hz).1
    rw [(ring_all F i (by omega)).ring] at h1
    rw [hz, List.getElem?_map, List.getElem?_range hi]
    simp only [Option.map_some, Option.some.injEq]
    unfold fabC at h1
    rw [Prod.mk.injEq] at h1
    exact Prod.ext (fab_some_eq h1.1) (fab_some_eq h1.2)
  · rw [List.getElem?_eq_none (by omega), List.getElem?_eq_none (by simp; omega)]

/-! ### sums -/
def sumQ (f : Nat → Rat) : Nat → Rat
  | 0 => 0
  | n + 1 => sumQ f n + f n
def addB (x y : Nat × Nat) : Nat × Nat := ((floatBits .add .f64 x.1 y.1).getD 0, (floatBits .add .f64 x.2 y.2).getD 0)
def accB (f : Nat → Nat × Nat) : Nat → Nat × Nat
  | 0 => (0, 0)
  | n + 1 => addB (accB f n) (f n)
theorem sumQ_mono {g : Nat → Rat} (n : Nat) (h : ∀ k, k < n → 0 ≤ g k) : ∀ k, k ≤ n → 0 ≤ sumQ g k ∧ sumQ g k ≤ sumQ g n := by
  induction n with
  | zero => intro k hk; obtain rfl : k = 0 := by omega
            exact ⟨by simp [sumQ], by grind⟩
  | succ m ih =>
    intro k hk
    have i := ih (fun j hj => h j (by omega))
    have hm := h m (by omega)
    by_cases e : k = m + 1
    · subst e
      have := i m (by omega)
      refine ⟨?_, by grind⟩
      simp only [sumQ]
      grind
    · have := i k (by omega)
      refine ⟨this.1, ?_⟩
      simp only [sumQ]
      grind
theorem sumQ_ab {f g : Nat → Rat} (n : Nat) (h : ∀ k, k < n → Flo.Ab (f k) (g k)) : Flo.Ab (sumQ f n) (sumQ g n) := by
  induction n with
  | zero => exact ⟨by simp [sumQ], by simp [sumQ]⟩
  | succ m ih => simp only [sumQ]; exact (ih (fun j hj => h j (by omega))).add (h m (by omega))
theorem acc_near (f : Nat → Nat × Nat) (g : Nat → Rat) (n : Nat) (hn : n ≤ 60) (hf : ∀ k, k < n → (Flo.Nm (f k).1 ∧ Flo.Nm (f k).2) ∧ Flo.Ab (Flo.W (f k).1) (g k) ∧ Flo.Ab (Flo.W (f k).2) (g k)) (D : Rat) (hD : sumQ g n ≤ D) (d1 : Flo.pw (-500) ≤ D) (d2 : D ≤ Flo.pw 500) :
    ∀ k, k ≤ n → Okz (accB f k) ∧ Flo.Ab (Flo.W (accB f k).1 - sumQ (fun i => Flo.W (f i).1) k) ((k : Rat) * (3 * (Flo.u * D))) ∧ Flo.Ab (Flo.W (accB f k).2 - sumQ (fun i => Flo.W (f i).2) k) ((k : Rat) * (3 * (Flo.u * D))) ∧
      ∀ j, j < k → AddOk (accB f j) (f j) (accB f (j + 1)) := by
  have u0 := Flo.u_pos
  have u1 := u_tin
  have D0 : 0 ≤ D := by have := Flo.pw_pos (-500); grind
  have uD : Flo.u * D * 1048576 ≤ D := by have := Rat.mul_le_mul_of_nonneg_right u1 D0; grind
  have uD0 := Rat.mul_nonneg (Rat.le_of_lt u0) D0
  have et : Flo.et ≤ Flo.u * D := by
    have h9 : Flo.et ≤ Flo.u * Flo.pw (-500) := by
      rw [show Flo.u = Flo.pw (-53) from rfl, ← Flo.pw_add]
      exact Flo.pw_le (by omega)
    have h10 := Rat.mul_le_mul_of_nonneg_left d1 (Rat.le_of_lt u0)
    grind
  have p7 : 4 * Flo.pw 500 < Flo.pw 1023 := by
    have e1 : Flo.pw 502 = 4 * Flo.pw 500 := by rw [show (502 : Int) = 2 + 500 from rfl, Flo.pw_add, show Flo.pw 2 = 4 from Flo.pw_nat 2]
    have e2 : Flo.pw 502 < Flo.pw 1023 := Flo.pw_lt (by omega)
    grind
  have g0 : ∀ k, k < n → 0 ≤ g k := fun k hk => (hf k hk).2.1.nonneg
  intro k
  induction k with
  | zero => intro _; refine ⟨⟨zero_num.1, zero_num.1, (by unfold Wz; decide : Wz (0, 0))⟩, ?_, ?_, fun j hj => by omega⟩ <;>
            · simp only [accB, sumQ, zero_num.2]
              exact ⟨by simp; grind, by simp; grind⟩
  | succ k ih =>
    intro hk
    obtain ⟨i1, i2, i3, i4⟩ := ih (by omega)
    obtain ⟨f1, f2, f3⟩ := hf k (by omega)
    have s1 := sumQ_ab (f := fun i => Flo.W (f i).1) (g := g) k (fun j hj => (hf j (by omega)).2.1)
    have s2 := sumQ_ab (f := fun i => Flo.W (f i).2) (g := g) k (fun j hj => (hf j (by omega)).2.2)
    have s3 := (sumQ_mono n g0 (k + 1) hk).2
    have e : sumQ g (k + 1) = sumQ g k + g k := rfl
    have hk0 : (k : Rat) ≤ 60 := by have := natR_le (show k ≤ 60 by omega); simpa using this
    have hk1 : (k : Rat) * (3 * (Flo.u * D)) ≤ 60 * (3 * (Flo.u * D)) := Rat.mul_le_mul_of_nonneg_right hk0 (by grind)
    have B1 : Flo.Ab (Flo.W (accB f k).1 + Flo.W (f k).1) (2 * D) := (((i2.add s1).add f2).eq (show _ = Flo.W (accB f k).1 + Flo.W (f k).1 by grind)).mono (by grind)
    have B2 : Flo.Ab (Flo.W (accB f k).2 + Flo.W (f k).2) (2 * D) := (((i3.add s2).add f3).eq (show _ = Flo.W (accB f k).2 + Flo.W (f k).2 by grind)).mono (by grind)
    obtain ⟨r, r1, r2, r3⟩ := Flo.d_add (accB f k).1 (f k).1 i1.1 f1.1 (2 * D) B1 (by grind)
    obtain ⟨q, q1, q2, q3⟩ := Flo.d_add (accB f k).2 (f k).2 i1.2.1 f1.2 (2 * D) B2 (by grind)
    have ea : accB f (k + 1) = (r, q) := by simp only [accB, addB, r1, q1, Option.getD_some]
    have ek : ((k + 1 : Nat) : Rat) = (k : Rat) + 1 := by push_cast; rfl
    rw [ea, ek]
    refine ⟨⟨r2, q2, ⟨floatBits_wf' r1, floatBits_wf' q1⟩⟩, ?_, ?_, ?_⟩
    · exact ((r3.add i2).eq (show _ = Flo.W r - sumQ (fun i => Flo.W (f i).1) (k + 1) by simp only [sumQ]; grind)).mono (by grind)
    · exact ((q3.add i3).eq (show _ = Flo.W q - sumQ (fun i => Flo.W (f i).2) (k + 1) by simp only [sumQ]; grind)).mono (by grind)
    · intro j hj
      by_cases hjk : j = k
      · subst hjk; rw [ea]; exact ⟨r1, q1⟩
      · exact i4 j (by omega)
theorem acc_sums (f : Nat → Nat × Nat) (n : Nat) (h : ∀ j, j < n → AddOk (accB f j) (f j) (accB f (j + 1))) : SumsOk ((List.range n).map f) ((List.range (n + 1)).map (accB f)) ∧ ((List.range (n + 1)).map (accB f))[n]? = some (accB f n) := by
  have at_ : ∀ {α : Type} (F : Nat → α) (m k : Nat) (x : α), ((List.range m).map F)[k]? = some x → k < m ∧ x = F k := by
    intro α F m k x hx
    by_cases hk : k < m
    · rw [List.getElem?_map, List.getElem?_range hk] at hx
      simp only [Option.map_some, Option.some.injEq] at hx
      exact ⟨hk, hx.symm⟩
    · rw [List.getElem?_eq_none (by simp; omega)] at hx; cases hx
  refine ⟨⟨by simp, ?_, ?_⟩, ?_⟩
  · rw [List.getElem?_map, List.getElem?_range (by omega)]; rfl
  · intro k p s t hp hs ht
    obtain ⟨k1, rfl⟩ := at_ _ _ _ _ hp
    obtain ⟨-, rfl⟩ := at_ _ _ _ _ hs
    obtain ⟨-, rfl⟩ := at_ _ _ _ _ ht
    exact h k k1
  · rw [List.getElem?_map, List.getElem?_range (by omega)]; rfl

end Go.Proofs.Ytlhhcchncobmhaa
