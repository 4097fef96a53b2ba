/- Plain: spectra by Horner's rule, their quotient, and a power by squares.
   Conditions: those that each statement names. -/
import Derived.Test.YtlhhcchncobmhaaFitB
namespace Go.Proofs.Ytlhhcchncobmhaa
set_option linter.unusedSimpArgs false
set_option linter.unusedVariables false
open Go Go.RowKit

/-! ### Horner's rule -/
/-- the sum behind j rounds, f m-1 first -/
def horB (f : Nat → Nat × Nat) (W : Nat × Nat) (m : Nat) : Nat → Nat × Nat
  | 0 => (0, 0)
  | j + 1 => addB (mulB (horB f W m j) W) (f (m - 1 - j))
def horR (f : Nat → Rat × Rat) (w : Rat × Rat) (m : Nat) : Nat → Rat × Rat
  | 0 => (0, 0)
  | j + 1 => ((horR f w m j).1 * w.1 - (horR f w m j).2 * w.2 + (f (m - 1 - j)).1, (horR f w m j).1 * w.2 + (horR f w m j).2 * w.1 + (f (m - 1 - j)).2)
theorem Sz.box {x y A : Rat} (h : Sz x y A 1) : Flo.Ab x A ∧ Flo.Ab y A := by
  have h' : Sz x y A (1 * 1) := by rwa [Rat.one_mul]
  have := h'.parts (by decide)
  rwa [Rat.mul_one] at this
theorem half_of {a b c d A : Rat} (h : Sz (c - a) (d - b) A (a * a + b * b)) (hA : A ≤ 7 / 16) : a * a + b * b ≤ 4 * (c * c + d * d) := by
  rcases le_tot (a * a + b * b) (4 * (c * c + d * d)) with g | g
  · exact g
  · obtain ⟨h1, h2, h3⟩ := h
    have k : Sz c d (1 / 2) (a * a + b * b) := ⟨by grind, h2, by grind⟩
    have l := k.sub (Sz.mono ⟨h1, h2, h3⟩ hA)
    have m : Sz a b (1 / 2 + 7 / 16) (a * a + b * b) := l.eq (by grind) (by grind)
    have e1 := m.2.2
    have e2 := sq_nonneg' c
    have e3 := sq_nonneg' d
    clear k l m h3
    grind
theorem hor_near (f : Nat → Nat × Nat) (W : Nat × Nat) (m : Nat) (hW : Okz W) (hw : Sz (Flo.W W.1) (Flo.W W.2) (1 / 4) 1) (hf : ∀ k, k < m → Okz (f k) ∧ Sz (Flo.W (f k).1) (Flo.W (f k).2) 7 1) :
    ∀ j, j ≤ m → Okz (horB f W m j) ∧ Sz (Flo.W (horB f W m j).1) (Flo.W (horB f W m j).2) 10 1 ∧
      Sz (Flo.W (horB f W m j).1 - (horR (fun k => vz (f k)) (vz W) m j).1) (Flo.W (horB f W m j).2 - (horR (fun k => vz (f k)) (vz W) m j).2) (70 * Flo.u) 1 ∧
      ∀ i, i < j → mulC (fabC (horB f W m i)) (fabC W) = (some (mulB (horB f W m i) W).1, some (mulB (horB f W m i) W).2) ∧ AddOk (mulB (horB f W m i) W) (f (m - 1 - i)) (horB f W m (i + 1)) := by
  have u0 := Flo.u_pos
  have u1 := u_tin
  intro j
  induction j with
  | zero =>
    intro _
    have z := zero_num.2
    refine ⟨⟨zero_num.1, zero_num.1, (by unfold Wz; decide : Wz (0, 0))⟩, ?_, ?_, fun i hi => by omega⟩
    · exact (Sz.zero 10 1 (by decide) (by decide)).eq z.symm z.symm
    · exact (Sz.zero (70 * Flo.u) 1 (by grind) (by decide)).eq (by show 0 = Flo.W 0 - 0; rw [z]; grind) (by show 0 = Flo.W 0 - 0; rw [z]; grind)
  | succ j ih =>
    intro hj
    obtain ⟨i1, i2, i3, i4⟩ := ih (by omega)
    obtain ⟨f1, f2⟩ := hf (m - 1 - j) (by omega)
    have lo : Flo.pw (-500) ≤ 10 * (1 / 4) := by have : Flo.pw (-500) ≤ Flo.pw 0 := Flo.pw_le (by omega); rw [Flo.pw_zero] at this; grind
    have hi : 10 * (1 / 4) ≤ Flo.pw 500 := by have : Flo.pw 2 ≤ Flo.pw 500 := Flo.pw_le (by omega); rw [show Flo.pw 2 = 4 from Flo.pw_nat 2] at this; grind
    obtain ⟨z, z1, z2, z3, z4, z5, z6⟩ := mul_box (horB f W m j) W i1.1 i1.2.1 hW.1 hW.2.1 10 (1 / 4) lo hi i2.box.1 i2.box.2 hw.box.1 hw.box.2
    have ez : mulB (horB f W m j) W = z := by unfold mulB; rw [z1]; rfl
    have p := Sz.box (show Sz _ _ (10 * (1 / 4)) 1 from by have := i2.mul hw; rwa [Rat.one_mul] at this)
    have B1 : Flo.Ab (Flo.W z.1 + Flo.W (f (m - 1 - j)).1) 20 := (((z5.add p.1).add f2.box.1).eq (by grind)).mono (by grind)
    have B2 : Flo.Ab (Flo.W z.2 + Flo.W (f (m - 1 - j)).2) 20 := (((z6.add p.2).add f2.box.2).eq (by grind)).mono (by grind)
    have h20 : (20 : Rat) < Flo.pw 1023 := by have : Flo.pw 5 < Flo.pw 1023 := Flo.pw_lt (by omega); rw [show Flo.pw 5 = 32 from Flo.pw_nat 5] at this; grind
    have het : Flo.et ≤ Flo.u := Flo.pw_le (by omega)
    obtain ⟨r, r1, r2, r3⟩ := Flo.d_add z.1 (f (m - 1 - j)).1 z2 f1.1 20 B1 h20
    obtain ⟨q, q1, q2, q3⟩ := Flo.d_add z.2 (f (m - 1 - j)).2 z3 f1.2.1 20 B2 h20
    have ea : horB f W m (j + 1) = (r, q) := by simp only [horB]; rw [ez]; simp only [addB, r1, q1, Option.getD_some]
    have e1 : Flo.Ab (Flo.W r - (Flo.W (horB f W m j).1 * Flo.W W.1 - Flo.W (horB f W m j).2 * Flo.W W.2 + Flo.W (f (m - 1 - j)).1)) (34 * Flo.u) := ((r3.add z5).eq (by grind)).mono (by grind)
    have e2 : Flo.Ab (Flo.W q - (Flo.W (horB f W m j).1 * Flo.W W.2 + Flo.W (horB f W m j).2 * Flo.W W.1 + Flo.W (f (m - 1 - j)).2)) (34 * Flo.u) := ((q3.add z6).eq (by grind)).mono (by grind)
    have es := Sz.of_parts (A := 50 * Flo.u) (g := 1) e1 e2 (by grind) (by decide) (by have := Rat.mul_nonneg (Rat.le_of_lt u0) (Rat.le_of_lt u0); grind)
    have em := (i2.mul hw).add (show Sz _ _ 7 (1 * 1) from by rw [Rat.one_mul]; exact f2)
    rw [ea]
    refine ⟨⟨r2, q2, ⟨floatBits_wf' r1, floatBits_wf' q1⟩⟩, ?_, ?_, ?_⟩
    · rw [Rat.one_mul] at em
      exact ((em.add es).eq (by grind) (by grind)).mono (by grind)
    · have l := i3.mul hw
      rw [Rat.one_mul] at l
      exact ((l.add es).eq (by simp only [horR, vz]; grind) (by simp only [horR, vz]; grind)).mono (by grind)
    · intro i hi'
      by_cases hij : i = j
      · subst hij
        rw [ez, ea]
        exact ⟨z1, r1, q1⟩
      · exact i4 i (by omega)

theorem hor_told (f : Nat → Nat × Nat) (W : Nat × Nat) (m : Nat) (h : ∀ i, i < m → mulC (fabC (horB f W m i)) (fabC W) = (some (mulB (horB f W m i) W).1, some (mulB (horB f W m i) W).2) ∧ AddOk (mulB (horB f W m i) W) (f (m - 1 - i)) (horB f W m (i + 1))) :
    SpecTold W ((List.range m).map f) (horB f W m m) := by
  refine ⟨(List.range (m + 1)).map (fun k => horB f W m (m - k)), by simp, ?_, ?_, ?_⟩
  · rw [List.length_map, List.length_range, List.getElem?_map, List.getElem?_range (by omega)]
    simp only [Option.map_some, Nat.sub_self, horB]
  · rw [List.getElem?_map, List.getElem?_range (by omega)]; rfl
  · intro k z a b hz ha hb
    obtain ⟨hk, rfl⟩ := range_at _ _ _ _ hz
    obtain ⟨-, rfl⟩ := range_at _ _ _ _ ha
    obtain ⟨-, rfl⟩ := range_at _ _ _ _ hb
    have g := h (m - (k + 1)) (by omega)
    refine ⟨_, g.1, ?_⟩
    have g2 := g.2
    rw [show m - 1 - (m - (k + 1)) = k from by omega, show m - (k + 1) + 1 = m - k from by omega] at g2
    exact g2
theorem hor_size (f : Nat → Rat × Rat) (w : Rat × Rat) (m : Nat) (g c : Rat) (hg : 0 ≤ g) (hc : 0 ≤ c) (hw : Sz w.1 w.2 (1 / 4) 1) (hf : ∀ k, k < m → Sz (f k).1 (f k).2 c g) : ∀ j, j ≤ m → Sz (horR f w m j).1 (horR f w m j).2 (4 / 3 * c) g
  | 0, _ => Sz.zero _ _ (by grind) hg
  | j + 1, hj => by
    have i := hor_size f w m g c hg hc hw hf j (by omega)
    have l := i.mul hw
    rw [Rat.mul_one] at l
    exact (l.add (hf (m - 1 - j) (by omega))).mono (by grind)
theorem hor_lin (f g : Nat → Rat × Rat) (w P : Rat × Rat) (m : Nat) : ∀ j, horR (fun k => ((g k).1 - ((f k).1 * P.1 - (f k).2 * P.2), (g k).2 - ((f k).1 * P.2 + (f k).2 * P.1))) w m j =
    ((horR g w m j).1 - ((horR f w m j).1 * P.1 - (horR f w m j).2 * P.2), (horR g w m j).2 - ((horR f w m j).1 * P.2 + (horR f w m j).2 * P.1))
  | 0 => by simp only [horR]; exact Prod.ext (by grind) (by grind)
  | j + 1 => by
    have i := hor_lin f g w P m j
    simp only [horR]
    rw [i]
    exact Prod.ext (by grind) (by grind)

/-- the numbers of a recording, h rounds apart -/
theorem apart_err {p s : Nat × Nat} (F : Fair p s) (h k : Nat) (hk : h + k ≤ 40) : Sz (Flo.W (ringB p s (h + k)).1 - (Flo.W (ringB p s k).1 * (exR (vz p) (1, 0) h).1 - Flo.W (ringB p s k).2 * (exR (vz p) (1, 0) h).2)) (Flo.W (ringB p s (h + k)).2 - (Flo.W (ringB p s k).1 * (exR (vz p) (1, 0) h).2 + Flo.W (ringB p s k).2 * (exR (vz p) (1, 0) h).1)) (840 * Flo.u) (nz s) := by
  have u0 := Flo.u_pos
  have h1 := (ring_all F (h + k) (by omega)).err
  have h2 := (ring_all F k (by omega)).err.mul (Sz.self (exR (vz p) (1, 0) h).1 (exR (vz p) (1, 0) h).2)
  rw [exR_one_nz] at h2
  have e : exR (vz p) (vz s) (h + k) = ((exR (vz p) (vz s) k).1 * (exR (vz p) (1, 0) h).1 - (exR (vz p) (vz s) k).2 * (exR (vz p) (1, 0) h).2, (exR (vz p) (vz s) k).1 * (exR (vz p) (1, 0) h).2 + (exR (vz p) (vz s) k).2 * (exR (vz p) (1, 0) h).1) := by
    rw [Nat.add_comm, exR_on, exR_mul (vz p) (exR (vz p) (vz s) k) h]
    exact Prod.ext (by grind) (by grind)
  rw [e] at h1
  have g : nz s * rp (nz p) k * rp (nz p) h = nz s * rp (nz p) (h + k) := by rw [rp_add]; grind
  rw [g] at h2
  obtain ⟨k0, k1⟩ := ku_le (show k ≤ 51 by omega)
  have l1 : ((h + k : Nat) : Rat) * Flo.u ≤ 40 * Flo.u := by
    have := natR_le hk
    exact Rat.mul_le_mul_of_nonneg_right (by simpa using this) (Rat.le_of_lt u0)
  have l2 : (k : Rat) * Flo.u ≤ 40 * Flo.u := by
    have := natR_le (show k ≤ 40 by omega)
    exact Rat.mul_le_mul_of_nonneg_right (by simpa using this) (Rat.le_of_lt u0)
  have r0 := rp_nonneg (nz_nonneg p) (h + k)
  have r1 := rp_le (nz_nonneg p) F.p2 (h + k) (by omega)
  have r2 : ((h + k : Nat) : Rat) ≤ 40 := by have := natR_le hk; simpa using this
  have r3 : nz s * rp (nz p) (h + k) ≤ 21 / 20 * (21 / 20) * nz s := by
    have := Rat.mul_le_mul_of_nonneg_left (show rp (nz p) (h + k) ≤ 21 / 20 * (21 / 20) by grind) (nz_nonneg s)
    grind
  have d := ((h1.sub h2).eq (a := Flo.W (ringB p s (h + k)).1 - (Flo.W (ringB p s k).1 * (exR (vz p) (1, 0) h).1 - Flo.W (ringB p s k).2 * (exR (vz p) (1, 0) h).2)) (b := Flo.W (ringB p s (h + k)).2 - (Flo.W (ringB p s k).1 * (exR (vz p) (1, 0) h).2 + Flo.W (ringB p s k).2 * (exR (vz p) (1, 0) h).1)) (by grind) (by grind)).mono (show _ ≤ 800 * Flo.u by grind)
  exact (d.scale (B := 21 / 20) (by grind) (nz_nonneg s) r3).mono (by grind)
theorem ring_flat {p s : Nat × Nat} (F : Fair p s) (k : Nat) (hk : k ≤ 40) : Sz (Flo.W (ringB p s k).1) (Flo.W (ringB p s k).2) (9 / 8) (nz s) := by
  have h := ring_size F k (by omega)
  have r1 := rp_le (nz_nonneg p) F.p2 k (by omega)
  have r2 : (k : Rat) ≤ 40 := by have := natR_le hk; simpa using this
  have r3 : nz s * rp (nz p) k ≤ 21 / 20 * (21 / 20) * nz s := by
    have := Rat.mul_le_mul_of_nonneg_left (show rp (nz p) k ≤ 21 / 20 * (21 / 20) by grind) (nz_nonneg s)
    grind
  exact (h.scale (B := 21 / 20) (by grind) (nz_nonneg s) r3).mono (by grind)
theorem pow_part {p s : Nat × Nat} (F : Fair p s) (h : Nat) (hh : h ≤ 40) : Sz (exR (vz p) (1, 0) h).1 (exR (vz p) (1, 0) h).2 (9 / 8) 1 := by
  have a := Sz.self (exR (vz p) (1, 0) h).1 (exR (vz p) (1, 0) h).2
  rw [exR_one_nz] at a
  have r1 := rp_le (nz_nonneg p) F.p2 h (by omega)
  have r2 : (h : Rat) ≤ 40 := by have := natR_le hh; simpa using this
  exact (a.scale (B := 9 / 8) (k := 1) (by grind) (by decide) (by grind)).mono (by grind)

theorem mid_of {a x : Rat} (h0 : 1 / 256 ≤ a) (h1 : a ≤ 4 * x) (h2 : x ≤ 10 * 10 * 1) : Flo.pw (-400) ≤ x ∧ x ≤ Flo.pw 400 := by
  have e1 : Flo.pw (-400) ≤ Flo.pw (-10) := Flo.pw_le (by omega)
  have e2 : Flo.pw (-10) = 1 / 1024 := by
    have a := Flo.pw_neg_mul 10
    rw [show Flo.pw 10 = 1024 from Flo.pw_nat 10] at a
    grind
  have e3 : Flo.pw 7 ≤ Flo.pw 400 := Flo.pw_le (by omega)
  rw [show Flo.pw 7 = 128 from Flo.pw_nat 7] at e3
  rw [e2] at e1
  clear e2
  exact ⟨by grind, by grind⟩
theorem fitSp_told {p s : Nat × Nat} (F : Fair p s) (hs : nz s ≤ 32) (hs0 : 1 / 256 ≤ nz s) (W : Nat × Nat) (hW : Okz W) (hw : Sz (Flo.W W.1) (Flo.W W.2) (1 / 4) 1) (half n : Nat) (h1 : 1 ≤ half) (hh : half ≤ 20) (hn : 2 * half ≤ n) :
    ∃ s1 s2 r, Wz s1 ∧ Wz s2 ∧ SpecTold W ((((List.range n).map (ringB p s)).drop half).take half) s1 ∧ SpecTold W (((List.range n).map (ringB p s)).take half) s2 ∧ divD s1.1 s1.2 s2.1 s2.2 = some (r.1, r.2) ∧ Near2 (exR (vz p) (1, 0) half).1 (exR (vz p) (1, 0) half).2 (30000 * Flo.u) r := by
  have u0 := Flo.u_pos
  have u1 := u_tin
  have n0 := nz_nonneg s
  rw [range_drop _ _ _ _ (by omega), range_take _ _ _ (by omega)]
  have six : nz s ≤ 6 * 6 * 1 := by grind
  have hf : ∀ k, k ≤ 40 → Okz (ringB p s k) ∧ Sz (Flo.W (ringB p s k).1) (Flo.W (ringB p s k).2) 7 1 := fun k hk =>
    ⟨(ring_all F k (by omega)).ok, ((ring_flat F k hk).scale (B := 6) (k := 1) (by grind) (by decide) six).mono (by grind)⟩
  obtain ⟨a1, a2, a3, a4⟩ := hor_near (fun k => ringB p s (half + k)) W half hW hw (fun k hk => hf (half + k) (by omega)) half (by omega)
  obtain ⟨b1, b2, b3, b4⟩ := hor_near (ringB p s) W half hW hw (fun k hk => hf k (by omega)) half (by omega)
  have one16 : (1 : Rat) ≤ 16 * 16 * nz s := by grind
  have a5 := a3.scale (B := 16) (k := nz s) (by grind) n0 one16
  have b5 := b3.scale (B := 16) (k := nz s) (by grind) n0 one16
  have P := pow_part F half (by omega)
  have U := hor_size (fun k => ((vz (ringB p s (half + k))).1 - ((vz (ringB p s k)).1 * (exR (vz p) (1, 0) half).1 - (vz (ringB p s k)).2 * (exR (vz p) (1, 0) half).2), (vz (ringB p s (half + k))).2 - ((vz (ringB p s k)).1 * (exR (vz p) (1, 0) half).2 + (vz (ringB p s k)).2 * (exR (vz p) (1, 0) half).1))) (vz W) half (nz s) (840 * Flo.u) n0 (by grind) hw (fun k hk => apart_err F half k (by omega)) half (by omega)
  rw [hor_lin (fun k => vz (ringB p s k)) (fun k => vz (ringB p s (half + k))) (vz W) (exR (vz p) (1, 0) half) half half] at U
  have bP := b5.mul P
  rw [Rat.mul_one] at bP
  have E := ((U.add a5).sub bP).eq (a := Flo.W (horB (fun k => ringB p s (half + k)) W half half).1 - (Flo.W (horB (ringB p s) W half half).1 * (exR (vz p) (1, 0) half).1 - Flo.W (horB (ringB p s) W half half).2 * (exR (vz p) (1, 0) half).2)) (b := Flo.W (horB (fun k => ringB p s (half + k)) W half half).2 - (Flo.W (horB (ringB p s) W half half).1 * (exR (vz p) (1, 0) half).2 + Flo.W (horB (ringB p s) W half half).2 * (exR (vz p) (1, 0) half).1)) (by grind) (by grind)
  have L : nz s ≤ 4 * nz (horB (ringB p s) W half half) := by
    obtain ⟨j, hj⟩ : ∃ j, half = j + 1 := ⟨half - 1, by omega⟩
    have T := (hor_size (fun k => vz (ringB p s k)) (vz W) half (nz s) (9 / 8) n0 (by grind) hw (fun k hk => ring_flat F k (by omega)) j (by omega)).mul hw
    rw [Rat.mul_one] at T
    have q : horR (fun k => vz (ringB p s k)) (vz W) half half = ((horR (fun k => vz (ringB p s k)) (vz W) half j).1 * Flo.W W.1 - (horR (fun k => vz (ringB p s k)) (vz W) half j).2 * Flo.W W.2 + Flo.W s.1, (horR (fun k => vz (ringB p s k)) (vz W) half j).1 * Flo.W W.2 + (horR (fun k => vz (ringB p s k)) (vz W) half j).2 * Flo.W W.1 + Flo.W s.2) := by
      conv => lhs; rw [show horR (fun k => vz (ringB p s k)) (vz W) half half = horR (fun k => vz (ringB p s k)) (vz W) half (j + 1) from by rw [← hj]]
      simp only [horR]
      rw [show half - 1 - j = 0 from by omega]
      rfl
    rw [q] at b5
    have D := ((b5.add T).eq (a := Flo.W (horB (ringB p s) W half half).1 - Flo.W s.1) (b := Flo.W (horB (ringB p s) W half half).2 - Flo.W s.2) (by simp only [vz]; grind) (by simp only [vz]; grind)).mono (show _ ≤ (7 / 16 : Rat) by grind)
    exact half_of D (Rat.le_refl)
  have E2 := (E.scale (B := 2) (k := nz (horB (ringB p s) W half half)) (by grind) (nz_nonneg _) (by grind)).mono (show _ ≤ 7000 * Flo.u by grind)
  have M : Mid (horB (ringB p s) W half half) := mid_of hs0 L b2.2.2
  obtain ⟨e, f, g1, g2, g3, g4, g5⟩ := quo_sz (horB (ringB p s) W half half) (horB (fun k => ringB p s (half + k)) W half half) b1 M a1.1 a1.2.1 _ _ (9 / 8) (13 / 4) (7000 * Flo.u) (by grind) (by grind) (by grind) P.box.1 P.box.2 (by grind) E2
  exact ⟨_, _, (e, f), a1.2.2, b1.2.2, hor_told _ _ _ a4, hor_told _ _ _ b4, g1, g2, g3, g4.mono (by grind), g5.mono (by grind)⟩

end Go.Proofs.Ytlhhcchncobmhaa
