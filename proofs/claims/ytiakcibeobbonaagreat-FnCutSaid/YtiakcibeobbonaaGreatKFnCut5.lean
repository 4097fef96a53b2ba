/- Texts of a proof, put together: PlayC, IscV, TxS, PlayE, PlayF, PlayH, PlayI, PlayJ, PlayG, StrikeB, PlayD.
   Conditions: those that each statement names. -/
import Derived.Test.YtiakcibeobbonaaGreatKFnCut4
import Derived.Deep.RegionHeld3
import Derived.Lib.SliceRun
import Derived.Deep.RegionLaw
import Derived.Deep.RegionLawGrows
/- All voices of a drawn score stay bounded: their steps and sums overflow nowhere (FnShifted, FnCut).
   Conditions: those that each statement names. -/
namespace Go.Proofs.YtiakcibeobbonaaGreat
set_option linter.unusedSimpArgs false
set_option linter.unusedVariables false
open Go Go.RowKit

/-! ### places of shapes -/
structure UnitP (v : Nat) : Prop where
  sm : Sm v
  ge : (FloatKind.f32.format.order v 0 == some .gt || FloatKind.f32.format.order v 0 == some .eq) = true
  le : (FloatKind.f32.format.order v 1065353216 == some .lt || FloatKind.f32.format.order v 1065353216 == some .eq) = true
theorem unitP_ok {v : Nat} (h : unitB v = true) : UnitP v := by
  unfold unitB at h
  simp only [Bool.and_eq_true, beq_iff_eq] at h
  obtain ⟨⟨⟨h1, h2⟩, h3⟩, -⟩ := h
  exact ⟨Sm_of h1, h2, h3⟩
theorem unit_range {v : Nat} (h0 : Sm v) (k0 : (FloatKind.f32.format.order v 0 == some .gt || FloatKind.f32.format.order v 0 == some .eq) = true) (k1 : (FloatKind.f32.format.order v 1065353216 == some .lt || FloatKind.f32.format.order v 1065353216 == some .eq) = true) : 0 ≤ S v ∧ S v ≤ 1 := by
  have o0 := Flo.order_num Ieee.single v 0 h0 zero_single.1
  have o1 := Flo.order_num Ieee.single v 1065353216 h0 one_s.1
  have z : Flo.V Ieee.single 0 = 0 := zero_single.2
  have z1 : Flo.V Ieee.single 1065353216 = 1 := one_s.2
  rw [show FloatKind.f32.format = Ieee.single from rfl, Bool.or_eq_true, beq_iff_eq, beq_iff_eq, o0.2.2, o0.2.1, z] at k0
  rw [show FloatKind.f32.format = Ieee.single from rfl, Bool.or_eq_true, beq_iff_eq, beq_iff_eq, o1.1, o1.2.1, z1] at k1
  have k0' : 0 < S v ∨ S v = 0 := k0
  have k1' : S v < 1 ∨ S v = 1 := k1
  constructor <;> grind
theorem UnitP.range {v : Nat} (h : UnitP v) : 0 ≤ S v ∧ S v ≤ 1 := unit_range h.sm h.ge h.le
theorem Fact.range {v : Nat} (h : Fact v) : 0 ≤ S v ∧ S v ≤ 1 := unit_range h.1 h.2.1 h.2.2
theorem shapeP_mem (kind n : Nat) (hk : kind ≤ 2) (hn : n ≤ 64) : ∀ x ∈ shapeL kind n, UnitP x := by
  intro x hx
  obtain ⟨i, hi, rfl⟩ := List.mem_map.1 hx
  exact unitP_ok (shape_unit kind n i hk hn (List.mem_range.1 hi))

/-- a force is no more than a million -/
theorem force_mul (x f : Nat) (hx : UnitP x) (h1 : Sm f) (h2 : Flo.Ab (S f) 1000020) : Calm .mul .f32 x f ∧ Sm (opB .mul .f32 x f) ∧ ra (S (opB .mul .f32 x f)) ≤ 2097152 := by
  obtain ⟨a0, a1⟩ := hx.range
  have l1 : Flo.pw 22 = 4194304 := Flo.pw_nat 22
  have l2 : Flo.pw 22 ≤ Flo.pw 127 := Flo.pw_le (by omega)
  have hp : Flo.Ab (S x * S f) 1000020 := by
    have k1 := Rat.mul_le_mul_of_nonneg_left h2.1 a0
    have k2 := Rat.mul_le_mul_of_nonneg_left h2.2 a0
    constructor <;> grind
  obtain ⟨r, q1, q2, q3⟩ := Flo.s_mul x f hx.sm h1 1000020 hp (by grind)
  obtain ⟨c1, c2⟩ := Calm.of q1
  refine ⟨c1, c2 ▸ q2, ?_⟩
  rw [c2]
  rw [v_val] at q3
  obtain ⟨e1, e2⟩ := es_tiny
  refine ra_le ?_
  unfold Flo.Ab at q3 hp ⊢
  grind

/-! ### a voice -/
structure PrtOk (B X : Rat) (p : Prt) : Prop where
  ms : ∀ m ∈ p.ms, m.ok
  len : p.ms.length ≤ 16
  st : p.st.length = p.ms.length
  box : ∀ s ∈ p.st, Sm s.1 ∧ Sm s.2 ∧ N (S s.1) (S s.2) B
  xs : ∀ x ∈ p.xs, Sm x ∧ ra (S x) ≤ X
  xl : p.xs.length ≤ 64
theorem PrtOk.mono {B B' X : Rat} {p : Prt} (h : PrtOk B X p) (hB : B ≤ B') : PrtOk B' X p :=
  ⟨h.ms, h.len, h.st, fun s hs => ⟨(h.box s hs).1, (h.box s hs).2.1, (h.box s hs).2.2.mono hB⟩, h.xs, h.xl⟩
theorem PrtOk.damp {B X : Rat} {p : Prt} (h : PrtOk B X p) {t : Nat} (ht : Fact t) : PrtOk B X (p.damp t) := by
  refine ⟨fun m hm => ?_, by simpa [Prt.damp] using h.len, by simpa [Prt.damp] using h.st, h.box, h.xs, h.xl⟩
  obtain ⟨m0, h0, rfl⟩ := List.mem_map.1 hm
  exact dampM_ok m0 t (h.ms m0 h0) ht.1 ht.range.1 ht.range.2
theorem PrtOk.input {B X : Rat} {p : Prt} (h : PrtOk B X p) (hX : 0 ≤ X) : Sm (inputOf p.xs 0) ∧ ra (S (inputOf p.xs 0)) ≤ X := by
  unfold inputOf
  cases hx : p.xs with
  | nil =>
    refine ⟨zero_single.1, ?_⟩
    show ra (S 0) ≤ X
    rw [zero_single.2]
    unfold ra
    rw [if_neg (by grind)]
    exact hX
  | cons x l => exact h.xs x (by rw [hx]; exact List.mem_cons_self)
theorem PrtOk.step {B X : Rat} {p : Prt} (h : PrtOk B X p) (hX : 0 ≤ X) (hB0 : 0 ≤ B) (hB : B ≤ Flo.pw 104) (hX2 : 4096 * X + 1 ≤ Flo.pw 104) :
    (∀ (k : Nat) m s, p.ms[k]? = some m → p.st[k]? = some s → StepOk m s (inputOf p.xs 0)) ∧ SumOk (stepAll p.ms p.st (inputOf p.xs 0)) ∧
    PrtOk (2 * B + (4096 * X + 1)) X p.next ∧ Sm p.out ∧ Flo.Ab (S p.out) (Flo.pw 112) := by
  obtain ⟨i1, i2⟩ := h.input hX
  have l2 : (1 : Rat) ≤ Flo.pw 104 := by have h := Flo.pw_le (a := 0) (b := 104) (by omega); rw [show Flo.pw 0 = 1 from Flo.pw_nat 0] at h; exact h
  have hs : ∀ (k : Nat) m s, p.ms[k]? = some m → p.st[k]? = some s → StepOk m s (inputOf p.xs 0) ∧ Sm (stepS m s (inputOf p.xs 0)).1 ∧ Sm (stepS m s (inputOf p.xs 0)).2 ∧ N (S (stepS m s (inputOf p.xs 0)).1) (S (stepS m s (inputOf p.xs 0)).2) (2 * B + (4096 * X + 1)) := by
    intro k m s hm hk
    obtain ⟨b1, b2, b3⟩ := h.box s (List.mem_of_getElem? hk)
    obtain ⟨c1, c2, c3, c4⟩ := step_box m (h.ms m (List.mem_of_getElem? hm)) s _ b1 b2 i1 B X b3 i2 hB (by grind)
    exact ⟨c1, c2, c3, c4.mono (by grind)⟩
  have hbox : ∀ s ∈ stepAll p.ms p.st (inputOf p.xs 0), Sm s.1 ∧ Sm s.2 ∧ N (S s.1) (S s.2) (2 * B + (4096 * X + 1)) := by
    intro s hsm
    unfold stepAll at hsm
    obtain ⟨k, hk⟩ := List.getElem?_of_mem hsm
    rw [List.getElem?_zipWith] at hk
    cases hm : p.ms[k]? with
    | none => rw [hm] at hk; simp at hk
    | some m =>
      cases ht : p.st[k]? with
      | none => rw [hm, ht] at hk; simp at hk
      | some t =>
        rw [hm, ht] at hk
        simp at hk
        subst hk
        exact (hs k m t hm ht).2
  have hlen : (stepAll p.ms p.st (inputOf p.xs 0)).length = p.ms.length := by
    unfold stepAll
    rw [List.length_zipWith, h.st, Nat.min_self]
  have l106 : Flo.pw 106 = 4 * Flo.pw 104 := by rw [show (106 : Int) = 2 + 104 from rfl, Flo.pw_add, show Flo.pw 2 = 4 from Flo.pw_nat 2]
  have l112 : Flo.pw 112 = 256 * Flo.pw 104 := by rw [show (112 : Int) = 8 + 104 from rfl, Flo.pw_add, show Flo.pw 8 = 256 from Flo.pw_nat 8]
  obtain ⟨u1, u2, u3⟩ := sum_ok (stepAll p.ms p.st (inputOf p.xs 0)) (2 * B + (4096 * X + 1)) (by grind) (by grind) (by rw [hlen]; exact h.len) fun s hs => ⟨(hbox s hs).1, (hbox s hs).2.2.ab.1⟩
  refine ⟨fun k m s a b => (hs k m s a b).1, u1, ⟨h.ms, h.len, hlen, hbox, fun x hx => h.xs x (List.mem_of_mem_drop hx), ?_⟩, u2, u3.mono (by grind)⟩
  show (p.xs.drop 1).length ≤ 64
  have := h.xl
  simp
  omega
theorem strikeP_ok (bs : List (List M4)) (hbs : ∀ ms ∈ bs, ms.length ≤ 4 ∧ ∀ m ∈ ms, m.ok) (L : Nat) (e : Ev6) (he : e.ok L bs.length) (hk : e.k = 1) (B : Rat) (hB : 0 ≤ B) : PrtOk B 2097152 (strikeP bs e) := by
  obtain ⟨-, -, b0, b1, h⟩ := he
  have h : 0 ≤ e.s ∧ e.s ≤ 2 ∧ 1 ≤ e.m ∧ e.m ≤ 9 ∧ Sm e.f ∧ Flo.Ab (S e.f) 1000020 := by
    rcases h with ⟨-, h⟩ | ⟨h, -⟩ | ⟨h, -⟩
    · exact h
    · rw [hk] at h; cases h
    · rw [hk] at h; cases h
  obtain ⟨h1, h2, h3, h4, h5, h6⟩ := h
  have hlt : e.b.toNat < bs.length := by omega
  have hm : bs.getD e.b.toNat [] ∈ bs := by
    rw [List.getD_eq_getElem?_getD, List.getElem?_eq_getElem hlt]
    exact List.getElem_mem hlt
  obtain ⟨m1, m2⟩ := hbs _ hm
  refine ⟨m2, Nat.le_trans m1 (by omega), by simp [strikeP], fun s hs => ?_, fun x hx => ?_, ?_⟩
  · have e0 := List.eq_of_mem_replicate hs
    subst e0
    refine ⟨zero_single.1, zero_single.1, ?_⟩
    show N (S 0) (S 0) B
    rw [zero_single.2]
    exact N.zero.mono hB
  · obtain ⟨y, hy, rfl⟩ := List.mem_map.1 hx
    obtain ⟨-, a, b⟩ := force_mul y e.f (shapeP_mem e.s.toNat e.m.toNat (by omega) (by omega) y hy) h5 h6
    exact ⟨a, b⟩
  · simp [strikeP, shapeL]
    omega

/-! ### all voices -/
def PsOk (V : Nat) (B : Rat) (ps : List Prt) : Prop := ps.length ≤ V ∧ ∀ p ∈ ps, PrtOk B 2097152 p
theorem PsOk.nil (V : Nat) (B : Rat) : PsOk V B [] := ⟨Nat.zero_le _, fun p h => by simp at h⟩
section
variable (bs : List (List M4)) (hbs : ∀ ms ∈ bs, ms.length ≤ 4 ∧ ∀ m ∈ ms, m.ok) (L V : Nat) (hV : 1 ≤ V)
include hbs hV
theorem takeE_ok (e : Ev6) (he : e.ok L bs.length) (B : Rat) (hB : 0 ≤ B) (ps : List Prt) (h : PsOk V B ps) : PsOk V B (takeE bs V ps e) := by
  obtain ⟨h1, h2⟩ := h
  unfold takeE
  split
  · rename_i hk
    have hs := strikeP_ok bs hbs L e he hk B hB
    split
    · refine ⟨by simp; omega, fun p hp => ?_⟩
      rw [List.mem_append] at hp
      rcases hp with hp | hp
      · exact h2 p (List.mem_of_mem_drop hp)
      · rw [List.mem_singleton] at hp
        subst hp
        exact hs
    · refine ⟨by simp; omega, fun p hp => ?_⟩
      rw [List.mem_append] at hp
      rcases hp with hp | hp
      · exact h2 p hp
      · rw [List.mem_singleton] at hp
        subst hp
        exact hs
  · split
    · rename_i hk1 hk
      have hf : Fact e.f := by
        obtain ⟨-, -, -, -, h⟩ := he
        rcases h with ⟨h, -⟩ | ⟨-, -, -, h⟩ | ⟨h, -⟩
        · exact absurd h hk1
        · exact h
        · rw [hk] at h; cases h
      refine ⟨by simpa using h1, fun p hp => ?_⟩
      obtain ⟨q, hq, rfl⟩ := List.mem_map.1 hp
      split
      · exact (h2 q hq).damp hf
      · exact h2 q hq
    · split
      · exact ⟨Nat.le_trans (List.length_filter_le _ _) h1, fun p hp => h2 p (List.mem_filter.1 hp).1⟩
      · exact ⟨h1, h2⟩
theorem takes_ok (B : Rat) (hB : 0 ≤ B) : ∀ (es : List Ev6), (∀ e ∈ es, e.ok L bs.length) → ∀ ps, PsOk V B ps → PsOk V B (es.foldl (takeE bs V) ps)
  | [], _, _, h => h
  | e :: es, he, ps, h => takes_ok B hB es (fun x hx => he x (List.mem_cons_of_mem _ hx)) _ (takeE_ok bs hbs L V hV e (he e List.mem_cons_self) B hB ps h)
variable (es : List Ev6) (hes : ∀ e ∈ es, e.ok L bs.length)
include hes
/-- the bound at a sample -/
def boxAt : Nat → Rat
  | 0 => 0
  | i + 1 => 2 * boxAt i + 8589934593
omit hbs hV hes in
theorem boxAt_eq : ∀ i, boxAt i + 8589934593 = Flo.pw (i : Int) * 8589934593
  | 0 => by show (0 : Rat) + _ = Flo.pw 0 * _; rw [show Flo.pw 0 = 1 from Flo.pw_nat 0]; grind
  | i + 1 => by
    have h := boxAt_eq i
    rw [show ((i + 1 : Nat) : Int) = (i : Int) + 1 from by omega, Flo.pw_succ]
    show 2 * boxAt i + 8589934593 + 8589934593 = _
    grind
omit hbs hV hes in
theorem boxAt_nonneg (i : Nat) : 0 ≤ boxAt i := by
  induction i with
  | zero => exact Rat.le_refl
  | succ i ih => show 0 ≤ 2 * boxAt i + 8589934593; grind
omit hbs hV hes in
theorem boxAt_le (i : Nat) (hi : i ≤ 70) : boxAt i ≤ Flo.pw 104 := by
  have h := boxAt_eq i
  have h1 : Flo.pw (i : Int) ≤ Flo.pw 70 := Flo.pw_le (by omega)
  have h2 : Flo.pw 104 = Flo.pw 70 * 17179869184 := by rw [show (104 : Int) = 70 + 34 from rfl, Flo.pw_add, show Flo.pw 34 = 17179869184 from Flo.pw_nat 34]
  have h3 := Flo.pw_pos 70
  grind
theorem pre_ok : ∀ i, i ≤ 70 → PsOk V (boxAt i) (preP bs V es i)
  | 0, _ => PsOk.nil _ _
  | i + 1, hi => by
    have h := takes_ok bs hbs L V hV (boxAt i) (boxAt_nonneg i) (evAt es i) (fun e he => hes e (List.mem_filter.1 he).1) _ (pre_ok i (by omega))
    refine ⟨by rw [preP_succ, List.length_map]; exact h.1, fun p hp => ?_⟩
    rw [preP_succ] at hp
    obtain ⟨q, hq, rfl⟩ := List.mem_map.1 hp
    have l2 : Flo.pw 40 ≤ Flo.pw 104 := Flo.pw_le (by omega)
    rw [show Flo.pw 40 = 1099511627776 from Flo.pw_nat 40] at l2
    have := ((h.2 q hq).step (by grind) (boxAt_nonneg i) (boxAt_le i (by omega)) (by grind)).2.2.1
    exact this.mono (by show _ ≤ 2 * boxAt i + 8589934593; grind)
theorem tk_ok (i : Nat) (hi : i ≤ 70) : PsOk V (boxAt i) (tkP bs V es i) :=
  takes_ok bs hbs L V hV (boxAt i) (boxAt_nonneg i) (evAt es i) (fun e he => hes e (List.mem_filter.1 he).1) _ (pre_ok bs hbs L V hV es hes i hi)
end
/-- voices whose outputs are summed -/
theorem sumP_ok (ps : List Prt) (h : ∀ p ∈ ps, Sm p.out ∧ Flo.Ab (S p.out) (Flo.pw 112)) (hl : ps.length ≤ 16) : ∀ k, k ≤ ps.length →
    Sm (sumP (ps.take k)) ∧ Flo.Ab (S (sumP (ps.take k))) ((k : Rat) * (2 * Flo.pw 112)) ∧ ∀ (j : Nat) p, j < k → ps[j]? = some p → Calm .add .f32 (sumP (ps.take j)) p.out := by
  intro k
  induction k with
  | zero =>
    intro _
    refine ⟨zero_single.1, ?_, fun j p hj => by omega⟩
    show Flo.Ab (S 0) _
    rw [zero_single.2]
    unfold Flo.Ab
    grind
  | succ k ih =>
    intro hk
    obtain ⟨i1, i2, i3⟩ := ih (by omega)
    obtain ⟨p, hp⟩ : ∃ p, ps[k]? = some p := ⟨ps[k]'(by omega), List.getElem?_eq_getElem _⟩
    obtain ⟨b1, b2⟩ := h p (List.mem_of_getElem? hp)
    have hk16 : (k : Rat) ≤ 16 := by exact_mod_cast (by omega : k ≤ 16)
    have hk0 : (0 : Rat) ≤ k := by exact_mod_cast Nat.zero_le k
    have l0 := Flo.pw_pos 112
    have hkB2 : (k : Rat) * (2 * Flo.pw 112) ≤ 16 * (2 * Flo.pw 112) := Rat.mul_le_mul_of_nonneg_right hk16 (by grind)
    have hkB0 := Rat.mul_nonneg hk0 (show 0 ≤ 2 * Flo.pw 112 by grind)
    have l1 : Flo.pw 127 = 32768 * Flo.pw 112 := by rw [show (127 : Int) = 15 + 112 from rfl, Flo.pw_add, show Flo.pw 15 = 32768 from Flo.pw_nat 15]
    have l2 : (1 : Rat) ≤ Flo.pw 112 := by have h := Flo.pw_le (a := 0) (b := 112) (by omega); rw [show Flo.pw 0 = 1 from Flo.pw_nat 0] at h; exact h
    obtain ⟨r, q1, q2, q3⟩ := Flo.s_add (sumP (ps.take k)) p.out i1 b1 ((k : Rat) * (2 * Flo.pw 112) + Flo.pw 112) (i2.add b2) (by grind)
    obtain ⟨c1, c2⟩ := Calm.of q1
    have er : sumP (ps.take (k + 1)) = r := by
      rw [List.take_add_one, hp]
      unfold sumP
      rw [List.foldl_append]
      exact c2
    refine ⟨er ▸ q2, ?_, fun j p' hj hp' => ?_⟩
    · rw [er]
      have e : ((k + 1 : Nat) : Rat) = (k : Rat) + 1 := by exact_mod_cast rfl
      rw [e]
      rw [v_val] at q3
      obtain ⟨e1, e2⟩ := es_tiny
      have i4 := i2.add b2
      unfold Flo.Ab at q3 i4 ⊢
      grind
    · by_cases hj' : j = k
      · subst hj'
        rw [hp] at hp'
        cases hp'
        exact c1
      · exact i3 j p' (by omega) hp'
end Go.Proofs.YtiakcibeobbonaaGreat

/- The model's IsScore over a score that is drawn (FnCut).
   Conditions: those that each statement names. -/
namespace Go.Proofs.YtiakcibeobbonaaGreat
set_option linter.unusedSimpArgs false
set_option linter.unusedVariables false
open Go Go.RowKit

theorem dblL_zero : dblL 0 = [48] := by
  have h : TxtOf 0 [48] := .inr (.inl ⟨rfl, rfl⟩)
  rw [dblL_of h]
  decide
theorem wid_zeroF : wid 0 = 0 := by decide
theorem fin_widF {x : Nat} (h : Sm x) : fin .f64 (wid x) = true := by
  exact (fin_iff' .f64 _).2 (wid_num h).1
theorem l7Zero_v (w : World) : Calls Tryz.prog 49 #[.float .f32 0] w (TestP true w) := by
  have P := Lib.hid (fun w => specSgl_f 0 zero_single.1 w)
  go_enter Tryz.func49, Tryz.ntmps49
  go_wp2_with fail
  refine (P.out _).mono ?_
  rintro e w1 ⟨rfl, n1⟩
  rw [wid_zeroF, dblL_zero]
  have hz : ((⟨([48] : List UInt8).toArray⟩ : ByteArray).toList == [48]) = true := by rw [ByteArray.toList_eq]; rfl
  have N1 := Lib.hid n1
  clear n1
  go_wp2_with fail
  go_ret
  exact ⟨rfl, N1.out⟩
set_option maxHeartbeats 3200000 in
set_option maxRecDepth 100000 in
theorem l7Event_v (L V : Int) (C R nb Ln : Nat) (sa : Option Addr) (sc : Nat) (ev : Value) (e : Ev6) (h : e.ok Ln nb) (hLn : Ln ≤ 2000) (hnb : nb ≤ 1000) (w : World) :
    Calls Tryz.prog 29 #[.agg #[.int .i64 L, .int .i64 V, .float .f32 C, .float .f32 R, .slice sa nb sc, ev], .agg #[.int .i64 e.t, .int .i64 e.k, .int .i64 e.b, .int .i64 e.s, .int .i64 e.m, .float .f32 e.f]] w (TestP true w) := by
  obtain ⟨t, k, b, s, m, f⟩ := e
  have h : EvOk Ln nb t k b s m f := h
  obtain ⟨t0, t1, b0, b1, hk⟩ := h
  simp only
  have S0 := Lib.hid ((HasC.new w 27 (.int .i64 L) (.int .i64 V) (.float .f32 C) (.float .f32 R) (.slice sa nb sc) ev).nw ((Nw.refl _).alloc (.cells #[.int .i64 t, .int .i64 k, .int .i64 b, .int .i64 s, .int .i64 m, .float .f32 f] 68 (0, 0))))
  have X := Lib.hid (HasC.new (w.alloc (.cells #[.int .i64 L, .int .i64 V, .float .f32 C, .float .f32 R, .slice sa nb sc, ev] 27 (0, 0))) 68 (.int .i64 t) (.int .i64 k) (.int .i64 b) (.int .i64 s) (.int .i64 m) (.float .f32 f))
  have N := Lib.hid (((Nw.refl w).alloc (.cells #[.int .i64 L, .int .i64 V, .float .f32 C, .float .f32 R, .slice sa nb sc, ev] 27 (0, 0))).alloc (.cells #[.int .i64 t, .int .i64 k, .int .i64 b, .int .i64 s, .int .i64 m, .float .f32 f] 68 (0, 0)))
  have hw1 : (w.alloc (.cells #[.int .i64 L, .int .i64 V, .float .f32 C, .float .f32 R, .slice sa nb sc, ev] 27 (0, 0))).heap.size = w.heap.size + 1 := by simp
  rw [hw1] at X
  clear hw1
  have d1 : decide (0 ≤ t ∧ t ≤ 2000) = true := decide_eq_true (by omega)
  have d2 : decide (0 ≤ b ∧ b ≤ (nb : Int) - 1) = true := decide_eq_true (by omega)
  rcases hk with ⟨rfl, s0, s1, m0, m1, f0, -⟩ | ⟨rfl, rfl, rfl, hf⟩ | ⟨rfl, rfl, rfl, rfl⟩
  · obtain ⟨s', rfl⟩ := Int.eq_ofNat_of_zero_le s0
    obtain ⟨m', rfl⟩ := Int.eq_ofNat_of_zero_le (show 0 ≤ m by omega)
    have a1 := fun w => fcv_up f0 w
    have a2 := fcd_up f0
    have a3 := fin_widF f0
    go_enter Tryz.func29, Tryz.ntmps29
    go_wp2_with (go_at_call 26; refine (l1In_any _ _ _ _).mono ?_; rintro e w1 ⟨rfl, rfl⟩; first | rw [d1] | rw [d2])
    refine (specStrike_ok s' m' (by omega) (by omega) (by omega) _).mono ?_
    rintro e w2 ⟨g, rfl, own2, n2⟩
    have N2 := Lib.hid (N.out.trans n2)
    obtain ⟨⟨e0, -⟩, ⟨e1, -⟩, ⟨e2, -⟩, ⟨e3, -⟩, ⟨e4, -⟩, e5, -⟩ := six_at (X.out.nw n2)
    clear own2 n2
    go_wp2_with fail
    refine (l1Finite_any _ _).mono ?_
    rintro e w3 ⟨rfl, n3, rfl⟩
    rw [a3]
    go_wp2_with fail
    go_ret
    exact ⟨rfl, N2.out.draw n3⟩
  · have h0' : (FloatKind.f32.format.order f 0 == some .gt || FloatKind.f32.format.order f 0 == some .eq) = true := hf.2.1
    have h1' : (FloatKind.f32.format.order f 1065353216 == some .lt || FloatKind.f32.format.order f 1065353216 == some .eq) = true := hf.2.2
    go_enter Tryz.func29, Tryz.ntmps29
    go_wp2_with (go_at_call 26; refine (l1In_any _ _ _ _).mono ?_; rintro e w1 ⟨rfl, rfl⟩; first | rw [d1] | rw [d2])
    all_goals
      go_ret
      exact ⟨rfl, N.out⟩
  · go_enter Tryz.func29, Tryz.ntmps29
    go_wp2_with (go_at_call 26; refine (l1In_any _ _ _ _).mono ?_; rintro e w1 ⟨rfl, rfl⟩; first | rw [d1] | rw [d2])
    refine (l7Zero_v _).mono ?_
    rintro e w2 ⟨rfl, n2⟩
    have N2 := Lib.hid (N.out.trans n2)
    clear n2
    go_wp2_with fail
    go_ret
    exact ⟨rfl, N2.out⟩
set_option maxHeartbeats 3200000 in
set_option maxRecDepth 100000 in
theorem specScore_v (base L V C R : Nat) (bs : List (List M4)) (es : List Ev6) (sv ev : Value) (w : World) (h : ScoV w base L V C R bs es sv ev) :
    Calls Tryz.prog 13 #[.agg #[.int .i64 (L : Int), .int .i64 (V : Int), .float .f32 C, .float .f32 R, sv, ev]] w (TestP true w) := by
  obtain ⟨nb, hnb⟩ : ∃ nb, nb = bs.length := ⟨_, rfl⟩
  obtain ⟨ne, hne⟩ : ∃ ne, ne = es.length := ⟨_, rfl⟩
  obtain ⟨⟨sa, sc, rfl⟩, ea, ec, rfl⟩ := h.shape
  rw [← hnb, ← hne] at h ⊢
  have hL := h.hL
  have hV := h.hV
  have hb3 := h.hb
  have he13 := h.he
  rw [← hnb] at hb3
  rw [← hne] at he13
  have H := Lib.hid h
  have Hn := Lib.hid (And.intro hnb hne)
  have S0 := Lib.hid (HasC.new w 27 (.int .i64 (L : Int)) (.int .i64 (V : Int)) (.float .f32 C) (.float .f32 R) (.slice sa nb sc) (.slice ea ne ec))
  have N0 := Lib.hid ((Nw.refl w).alloc (.cells #[.int .i64 (L : Int), .int .i64 (V : Int), .float .f32 C, .float .f32 R, .slice sa nb sc, .slice ea ne ec] 27 (0, 0)))
  have hR' := h.hR.2.1
  have hl : lim C R = true := by
    have hgc : (gt0 C && fin .f32 C) = true := by rw [Bool.and_eq_true]; exact ⟨h.hC.2, (fin_iff' .f32 C).2 h.hC.1⟩
    have h1 : ge0 R = true := h.hR.1.2.1
    have h2 : le1 R = true := h.hR.1.2.2
    have h3 := h.hR.2.2
    unfold lim
    rw [hgc, h1, h2]; simpa using h3
  have Hl := Lib.hid hl
  have d1 : decide (0 ≤ (L : Int) ∧ (L : Int) ≤ 2000) = true := decide_eq_true (by omega)
  have d2 : decide (1 ≤ (V : Int) ∧ (V : Int) ≤ 8) = true := decide_eq_true (by omega)
  clear h hnb hne hl
  go_enter Tryz.func13, Tryz.ntmps13
  go_wp2_with (go_at_call 26; refine (l1In_any _ _ _ _).mono ?_; rintro e w1 ⟨rfl, rfl⟩; first | rw [d1] | rw [d2])
  refine (l7Limits_any C R hR' _).mono ?_
  rintro e w1 ⟨rfl, n1⟩
  rw [Hl.out]
  have N1 := Lib.hid (N0.out.trans n1)
  have S1 := Lib.hid (S0.out.nw n1)
  clear n1
  obtain ⟨⟨e0, g0⟩, ⟨e1, g1⟩, ⟨e2, g2⟩, ⟨e3, g3⟩, ⟨e4, g4⟩, ⟨e5, g5⟩⟩ := six_at S1.out
  go_wp2_with fail
  clear e0 g0 e1 g1 e2 g2 e3 g3 e4 g4 e5 g5
  go_loopw [38] (fun i wr => ∃ k : Nat, k ≤ nb ∧ i = .int .i64 (k : Int) ∧ Nw w1 wr) (fun i _ => nb - (intOf i).toNat)
  case atStart => exact ⟨0, by omega, rfl, Nw.refl _⟩
  case round =>
    obtain ⟨k, hk, rfl, hN⟩ := hrel
    have Nr := Lib.hid hN
    clear hN
    by_cases hlt : k < nb
    · obtain ⟨ms, hmk⟩ : ∃ ms, bs[k]? = some ms := ⟨bs[k]'(by rw [← Hn.out.1]; exact hlt), List.getElem?_eq_getElem _⟩
      obtain ⟨g, cap, a, c, hv, hcap, hmax, hgs, e1, own⟩ := ((H.out.bods.nw N1.out).nw Nr.out).at Hn.out.1 hmk
      cases hv
      have Own := Lib.hid (own.alloc (.cells #[.slice a ms.length c] 65 (0, 0)))
      have hbk := H.out.bok ms (List.mem_of_getElem? hmk)
      have Hbb := Lib.hid (show bodyB ms = true from (bodyB_iff ms).2 ⟨by omega, hbk.2⟩)
      have hml := hbk.1
      have N4 := Lib.hid (Nr.out.alloc (.cells #[.slice a ms.length c] 65 (0, 0)))
      unfold maxLen at hmax
      clear own hmk hbk
      go_wp2_with fail
      refine (specIsBody_fin ms ms.length base _ rfl (by omega) _ Own.out).mono ?_
      rintro e w5 ⟨rfl, n5⟩
      rw [Hbb.out]
      have N5 := Lib.hid (N4.out.trans n5)
      clear n5 e1
      go_wp2_with fail
      go_roundw
      case rel => exact ⟨k + 1, by omega, by rw [show ((k + 1 : Nat) : Int) = (k : Int) + 1 from by omega], N5.out⟩
      case measure => simp only [intOf]; omega
    · obtain rfl : k = nb := by omega
      obtain ⟨w2, hw2⟩ : ∃ w2, w2 = wr := ⟨_, rfl⟩
      subst hw2
      have S2 := Lib.hid (S1.out.nw Nr.out)
      have N2 := Lib.hid (N1.out.trans Nr.out)
      obtain ⟨⟨e0, g0⟩, ⟨e1, g1⟩, ⟨e2, g2⟩, ⟨e3, g3⟩, ⟨e4, g4⟩, ⟨e5, g5⟩⟩ := six_at S2.out
      go_wp2_with fail
      clear e0 g0 e1 g1 e2 g2 e3 g3 e4 g4 e5 g5
      go_loopw [49] (fun i wr => ∃ j : Nat, j ≤ ne ∧ i = .int .i64 (j : Int) ∧ Nw w2 wr) (fun i _ => ne - (intOf i).toNat)
      case atStart => exact ⟨0, by omega, rfl, Nw.refl _⟩
      case round =>
        obtain ⟨j, hj, rfl, hN⟩ := hrel
        have Nj := Lib.hid hN
        clear hN
        by_cases hlt2 : j < ne
        · obtain ⟨x, hxk⟩ : ∃ x, es[j]? = some x := ⟨es[j]'(by rw [← Hn.out.2]; exact hlt2), List.getElem?_eq_getElem _⟩
          have oe := own_nw (own_nw H.out.evs N2.out) Nj.out
          rw [← Hn.out.2] at oe
          obtain ⟨g, cap, hv, hcap, hmax, hgs, x0, x1, x2, x3, x4, x5⟩ := own_event oe Hn.out.2.symm hxk
          cases hv
          have He := Lib.hid (H.out.eok x (List.mem_of_getElem? hxk))
          obtain ⟨wd, hwd⟩ : ∃ wd, wd = wr.alloc (.cells #[.int .i64 x.t, .int .i64 x.k, .int .i64 x.b, .int .i64 x.s, .int .i64 x.m, .float .f32 x.f] 68 (0, 0)) := ⟨_, rfl⟩
          have Nd := Lib.hid (show Nw wr wd from by rw [hwd]; exact (Nw.refl wr).alloc _)
          have Bx := Lib.hid (show HasC wd wr.heap.size [.int .i64 x.t, .int .i64 x.k, .int .i64 x.b, .int .i64 x.s, .int .i64 x.m, .float .f32 x.f] from by rw [hwd]; exact HasC.new wr _ _ _ _ _ _ _)
          have Hwd := Lib.hid hwd
          unfold maxLen at hmax
          clear oe hxk hwd
          go_upto_region 14 with fail
          rw [← Hwd.out]
          clear Hwd x0 x1 x2 x3 x4 x5
          obtain ⟨⟨e0, g0⟩, ⟨e1, g1⟩, ⟨e2, g2⟩, ⟨e3, g3⟩, ⟨e4, g4⟩, ⟨e5, g5⟩⟩ := six_at ((S2.out.nw Nj.out).nw Nd.out)
          obtain ⟨⟨x0, -⟩, ⟨x1, -⟩, ⟨x2, -⟩, ⟨x3, -⟩, ⟨x4, -⟩, ⟨x5, -⟩⟩ := six_at Bx.out
          go_wp2_with fail
          refine (l7Event_v (L : Int) (V : Int) C R k L sa sc _ x (by rw [Hn.out.1]; exact He.out) (by omega) (by omega) _).mono ?_
          rintro e w5 ⟨rfl, n5⟩
          have N5 := Lib.hid ((Nj.out.trans Nd.out).trans n5)
          clear n5 e0 g0 e1 g1 e2 g2 e3 g3 e4 g4 e5 g5 x0 x1 x2 x3 x4 x5
          go_wp2_with fail
          go_roundw
          case rel => exact ⟨j + 1, by omega, by rw [show ((j + 1 : Nat) : Int) = (j : Int) + 1 from by omega], N5.out⟩
          case measure => simp only [intOf]; omega
        · obtain rfl : j = ne := by omega
          go_wp2_with fail
          go_ret
          exact ⟨rfl, N2.out.trans Nj.out⟩
end Go.Proofs.YtiakcibeobbonaaGreat

/- The model's text of a score that is drawn, as a function (FnCut).
   Conditions: those that each statement names. -/
namespace Go.Proofs.YtiakcibeobbonaaGreat
set_option linter.unusedSimpArgs false
set_option linter.unusedVariables false
open Go Go.RowKit

def numF (n : Nat) : List UInt8 := bytF (dgs n)
theorem numF_len (n : Nat) (h : n ≤ 2000) : (numF n).length ≤ 18 := by
  unfold numF bytF
  rw [List.length_map]
  exact dgs_len 17 n (by omega)
theorem l1Number_f (n : Nat) (hn : n ≤ 2000) (w : World) : Calls Tryz.prog 38 #[.int .i64 (n : Int)] w (StrF (numF n) w) := by
  refine (l1Number_ok n (by omega) w).mono ?_
  rintro e w' ⟨rfl, hn⟩
  exact ⟨rfl, hn⟩
theorem l1Number_z (x : Int) (h : 0 ≤ x ∧ x ≤ 2000) (w : World) : Calls Tryz.prog 38 #[.int .i64 x] w (StrF (numF x.toNat) w) := by
  obtain ⟨n, rfl⟩ := Int.eq_ofNat_of_zero_le h.1
  exact l1Number_f n (by omega) w
def tScore : List UInt8 := [115, 99, 111, 114, 101, 32]
noncomputable def headF (L V C R : Nat) : List UInt8 := tScore ++ numF L ++ [32] ++ numF V ++ [32] ++ dblL (wid C) ++ [32] ++ dblL (wid R) ++ [10]
def tBody : List UInt8 := [98, 111, 100, 121, 10]
noncomputable def bodF (ms : List M4) : List UInt8 := tBody ++ modesF ms
noncomputable def bodsF (bs : List (List M4)) : List UInt8 := bs.flatMap bodF
def tAt : List UInt8 := [97, 116, 32]
noncomputable def kindF (e : Ev6) : List UInt8 :=
  if e.k = 1 then [32, 115, 116, 114, 105, 107, 101, 32] ++ numF e.b.toNat ++ [32] ++ numF e.s.toNat ++ [32] ++ numF e.m.toNat ++ [32] ++ dblL (wid e.f)
  else if e.k = 2 then [32, 100, 97, 109, 112, 32] ++ numF e.b.toNat ++ [32] ++ dblL (wid e.f)
  else [32, 115, 116, 111, 112, 32] ++ numF e.b.toNat
noncomputable def evF (e : Ev6) : List UInt8 := tAt ++ numF e.t.toNat ++ kindF e ++ [10]
noncomputable def evsF (es : List Ev6) : List UInt8 := es.flatMap evF
noncomputable def scoreF (L V C R : Nat) (bs : List (List M4)) (es : List Ev6) : List UInt8 := headF L V C R ++ bodsF bs ++ evsF es
theorem bodsF_snoc (bs : List (List M4)) (k : Nat) (ms : List M4) (h : bs[k]? = some ms) : bodsF (bs.take (k + 1)) = bodsF (bs.take k) ++ bodF ms := by
  unfold bodsF
  rw [List.take_add_one, h, List.flatMap_append]
  simp
theorem evsF_snoc (es : List Ev6) (k : Nat) (e : Ev6) (h : es[k]? = some e) : evsF (es.take (k + 1)) = evsF (es.take k) ++ evF e := by
  unfold evsF
  rw [List.take_add_one, h, List.flatMap_append]
  simp
theorem bodF_len (ms : List M4) (h : ms.length ≤ 4) : (bodF ms).length ≤ 1001 := by
  have := modesF_len ms
  unfold bodF
  simp [tBody]
  omega
def FmSI (hd : List UInt8) (bs : List (List M4)) (n : Nat) (w : World) (o i : Value) (wr : World) : Prop :=
  ∃ (k : Nat) (l : List UInt8), k ≤ n ∧ i = .int .i64 (k : Int) ∧ o = .string ⟨l.toArray⟩ ∧ l = hd ++ bodsF (bs.take k) ∧ l.length ≤ 200 + k * 1010 ∧ Nw w wr
def FmEI (hd : List UInt8) (es : List Ev6) (n : Nat) (w : World) (o i : Value) (wr : World) : Prop :=
  ∃ (k : Nat) (l : List UInt8), k ≤ n ∧ i = .int .i64 (k : Int) ∧ o = .string ⟨l.toArray⟩ ∧ l = hd ++ evsF (es.take k) ∧ l.length ≤ 4000 + k * 300 ∧ Nw w wr
theorem fmE_next {hd : List UInt8} {es : List Ev6} {n k : Nat} {l : List UInt8} {w wr wz : World} {e : Ev6} (hl : l = hd ++ evsF (es.take k)) (he : es[k]? = some e) (hk : k < n) (hll : l.length ≤ 4000 + k * 300) {m : List UInt8} (hm : m = evF e) (hml : m.length ≤ 300) (N : Nw w wz) :
    FmEI hd es n w (.string ⟨(l ++ m).toArray⟩) (.int .i64 ((k : Int) + 1)) wz := by
  refine ⟨k + 1, l ++ m, by omega, by rw [show ((k + 1 : Nat) : Int) = (k : Int) + 1 from by omega], rfl, ?_, by rw [List.length_append]; omega, N⟩
  rw [hl, hm, evsF_snoc es k e he, List.append_assoc]
set_option maxHeartbeats 12800000 in
set_option maxRecDepth 100000 in
theorem formatScore_f (base L V C R : Nat) (bs : List (List M4)) (es : List Ev6) (sv ev : Value) (w : World) (h : ScoV w base L V C R bs es sv ev) :
    Calls Tryz.prog 18 #[.agg #[.int .i64 (L : Int), .int .i64 (V : Int), .float .f32 C, .float .f32 R, sv, ev]] w (StrF (scoreF L V C R bs es) w) := by
  obtain ⟨nb, hnb⟩ : ∃ nb, nb = bs.length := ⟨_, rfl⟩
  obtain ⟨ne, hne⟩ : ∃ ne, ne = es.length := ⟨_, rfl⟩
  obtain ⟨⟨sa, sc, rfl⟩, ea, ec, rfl⟩ := h.shape
  rw [← hnb, ← hne] at h ⊢
  have hL := h.hL
  have hV := h.hV
  have hb3 := h.hb
  have he13 := h.he
  rw [← hnb] at hb3
  rw [← hne] at he13
  have H := Lib.hid h
  have Hn := Lib.hid (And.intro hnb hne)
  have S0 := Lib.hid (HasC.new w 27 (.int .i64 (L : Int)) (.int .i64 (V : Int)) (.float .f32 C) (.float .f32 R) (.slice sa nb sc) (.slice ea ne ec))
  have N0 := Lib.hid ((Nw.refl w).alloc (.cells #[.int .i64 (L : Int), .int .i64 (V : Int), .float .f32 C, .float .f32 R, .slice sa nb sc, .slice ea ne ec] 27 (0, 0)))
  have P1 := Lib.hid (fun w => l1Number_f L (by omega) w)
  have P2 := Lib.hid (fun w => l1Number_f V (by omega) w)
  have P3 := Lib.hid (fun w => specSgl_f C h.hC.1 w)
  have P4 := Lib.hid (fun w => specSgl_f R h.hR.1.1 w)
  have g1 := numF_len L (by omega)
  have g2 := numF_len V (by omega)
  have g3 := dblL_len (wid C)
  have g4 := dblL_len (wid R)
  have Hh := Lib.hid (show headF L V C R = tScore ++ numF L ++ [32] ++ numF V ++ [32] ++ dblL (wid C) ++ [32] ++ dblL (wid R) ++ [10] from rfl)
  have hh : (headF L V C R).length ≤ 200 := by rw [Hh.out]; simp [tScore]; omega
  obtain ⟨hd, hhd⟩ : ∃ hd, hd = headF L V C R := ⟨_, rfl⟩
  rw [← hhd] at Hh hh
  have Hhd := Lib.hid hhd
  clear h hnb hne hhd
  go_enter Tryz.func18, Tryz.ntmps18
  go_wp2_with fail
  refine (specScore_v base L V C R bs es _ _ _ (H.out.nw N0.out)).mono ?_
  rintro e w1 ⟨rfl, n1⟩
  have N1 := Lib.hid (N0.out.trans n1)
  have S1 := Lib.hid (S0.out.nw n1)
  clear n1 S0
  have KeepS := Lib.hid (show ∀ W', Nw w1 W' → W'.cell? ⟨w.heap.size, 0, none⟩ = some (.int .i64 (L : Int)) ∧ W'.cell? ⟨w.heap.size, 1, none⟩ = some (.int .i64 (V : Int)) ∧ W'.cell? ⟨w.heap.size, 2, none⟩ = some (.float .f32 C) ∧ W'.cell? ⟨w.heap.size, 3, none⟩ = some (.float .f32 R) from fun W' hW => by
    obtain ⟨⟨e0, -⟩, ⟨e1, -⟩, ⟨e2, -⟩, ⟨e3, -⟩, -, -⟩ := six_at (S1.out.nw hW)
    exact ⟨e0, e1, e2, e3⟩)
  obtain ⟨⟨e0, g0⟩, ⟨e1, g1'⟩, ⟨e2, g2'⟩, ⟨e3, g3'⟩, ⟨e4, g4'⟩, ⟨e5, g5'⟩⟩ := six_at S1.out
  go_upto_region 3 with fail
  clear e0 g0 e1 g1' e2 g2' e3 g3' e4 g4' e5 g5'
  generalize numF L = t1 at *
  generalize numF V = t2 at *
  generalize dblL (wid C) = t3 at *
  generalize dblL (wid R) = t4 at *
  refine wp_region_held_drew (S := fun W' => W'.cell? ⟨w.heap.size, 0, none⟩ = some (.int .i64 (L : Int)) ∧ W'.cell? ⟨w.heap.size, 1, none⟩ = some (.int .i64 (V : Int)) ∧ W'.cell? ⟨w.heap.size, 2, none⟩ = some (.float .f32 C) ∧ W'.cell? ⟨w.heap.size, 3, none⟩ = some (.float .f32 R)) (by kernel_rfl) (KeepS.out _ ((Nw.refl w1).draw 1)) (fun hHeld => ?_)
  refine wpAnyH_take (i := 0) (oi := _) (v := ?_) rfl (by kernel_rfl) (by kernel_rfl) (by kernel_rfl) (fun _ _ _ h => h) (_root_.Or.inl ⟨by rfl, ?_⟩) (by assumption) ?_
  rotate_left
  · intro w hSw
    (try dsimp only at hSw)
    go_simp
    all_goals first | with_reducible rfl | (rw [if_neg (by omega)]; done) | (rw [if_neg (by simp; omega)]; done) | (rw [if_neg (by omega)]; with_reducible rfl) | (rw [if_neg (by simp; omega)]; with_reducible rfl)
  try simp only [List.getElem_toArray, List.getElem_cons_succ, List.getElem_cons_zero, Act.put, List.setIfInBounds_toArray, List.set_cons_zero, List.set_cons_succ]
  refine wpAnyH_take (i := 1) (oi := _) (v := ?_) rfl (by kernel_rfl) (by kernel_rfl) (by kernel_rfl) (fun _ _ _ h => h) (_root_.Or.inl ⟨by rfl, ?_⟩) (by assumption) ?_
  rotate_left
  · intro w hSw
    (try dsimp only at hSw)
    go_simp
    all_goals first | with_reducible rfl | (rw [if_neg (by omega)]; done) | (rw [if_neg (by simp; omega)]; done) | (rw [if_neg (by omega)]; with_reducible rfl) | (rw [if_neg (by simp; omega)]; with_reducible rfl)
  try simp only [List.getElem_toArray, List.getElem_cons_succ, List.getElem_cons_zero, Act.put, List.setIfInBounds_toArray, List.set_cons_zero, List.set_cons_succ]
  refine wpAnyH_take (i := 5) (oi := _) (v := ?_) rfl (by kernel_rfl) (by kernel_rfl) (by kernel_rfl) (fun _ _ _ h => h) (_root_.Or.inl ⟨by rfl, ?_⟩) (by assumption) ?_
  rotate_left
  · intro w hSw
    (try dsimp only at hSw)
    go_simp
    all_goals first | with_reducible rfl | (rw [if_neg (by omega)]; done) | (rw [if_neg (by simp; omega)]; done) | (rw [if_neg (by omega)]; with_reducible rfl) | (rw [if_neg (by simp; omega)]; with_reducible rfl)
  try simp only [List.getElem_toArray, List.getElem_cons_succ, List.getElem_cons_zero, Act.put, List.setIfInBounds_toArray, List.set_cons_zero, List.set_cons_succ]
  refine wpAnyH_take (i := 6) (oi := _) (v := ?_) rfl (by kernel_rfl) (by kernel_rfl) (by kernel_rfl) (fun _ _ _ h => h) (_root_.Or.inl ⟨by rfl, ?_⟩) (by assumption) ?_
  rotate_left
  · intro w hSw
    (try dsimp only at hSw)
    go_simp
    all_goals first | with_reducible rfl | (rw [if_neg (by omega)]; done) | (rw [if_neg (by simp; omega)]; done) | (rw [if_neg (by omega)]; with_reducible rfl) | (rw [if_neg (by simp; omega)]; with_reducible rfl)
  try simp only [List.getElem_toArray, List.getElem_cons_succ, List.getElem_cons_zero, Act.put, List.setIfInBounds_toArray, List.set_cons_zero, List.set_cons_succ]
  refine wpAnyH_take (i := 10) (oi := _) (v := ?_) rfl (by kernel_rfl) (by kernel_rfl) (by kernel_rfl) (fun _ _ _ h => h) (_root_.Or.inl ⟨by rfl, ?_⟩) (by assumption) ?_
  rotate_left
  · intro w hSw
    (try dsimp only at hSw)
    go_simp
    all_goals first | with_reducible rfl | (rw [if_neg (by omega)]; done) | (rw [if_neg (by simp; omega)]; done) | (rw [if_neg (by omega)]; with_reducible rfl) | (rw [if_neg (by simp; omega)]; with_reducible rfl)
  try simp only [List.getElem_toArray, List.getElem_cons_succ, List.getElem_cons_zero, Act.put, List.setIfInBounds_toArray, List.set_cons_zero, List.set_cons_succ]
  refine wpAnyH_take (i := 11) (oi := _) (v := ?_) rfl (by kernel_rfl) (by kernel_rfl) (by kernel_rfl) (fun _ _ _ h => h) (_root_.Or.inl ⟨by rfl, ?_⟩) (by assumption) ?_
  rotate_left
  · intro w hSw
    (try dsimp only at hSw)
    go_simp
    all_goals first | with_reducible rfl | (rw [if_neg (by omega)]; done) | (rw [if_neg (by simp; omega)]; done) | (rw [if_neg (by omega)]; with_reducible rfl) | (rw [if_neg (by simp; omega)]; with_reducible rfl)
  try simp only [List.getElem_toArray, List.getElem_cons_succ, List.getElem_cons_zero, Act.put, List.setIfInBounds_toArray, List.set_cons_zero, List.set_cons_succ]
  refine wpAnyH_take (i := 15) (oi := _) (v := ?_) rfl (by kernel_rfl) (by kernel_rfl) (by kernel_rfl) (fun _ _ _ h => h) (_root_.Or.inl ⟨by rfl, ?_⟩) (by assumption) ?_
  rotate_left
  · intro w hSw
    (try dsimp only at hSw)
    go_simp
    all_goals first | with_reducible rfl | (rw [if_neg (by omega)]; done) | (rw [if_neg (by simp; omega)]; done) | (rw [if_neg (by omega)]; with_reducible rfl) | (rw [if_neg (by simp; omega)]; with_reducible rfl)
  try simp only [List.getElem_toArray, List.getElem_cons_succ, List.getElem_cons_zero, Act.put, List.setIfInBounds_toArray, List.set_cons_zero, List.set_cons_succ]
  refine wpAnyH_take (i := 16) (oi := _) (v := ?_) rfl (by kernel_rfl) (by kernel_rfl) (by kernel_rfl) (fun _ _ _ h => h) (_root_.Or.inl ⟨by rfl, ?_⟩) (by assumption) ?_
  rotate_left
  · intro w hSw
    (try dsimp only at hSw)
    go_simp
    all_goals first | with_reducible rfl | (rw [if_neg (by omega)]; done) | (rw [if_neg (by simp; omega)]; done) | (rw [if_neg (by omega)]; with_reducible rfl) | (rw [if_neg (by simp; omega)]; with_reducible rfl)
  try simp only [List.getElem_toArray, List.getElem_cons_succ, List.getElem_cons_zero, Act.put, List.setIfInBounds_toArray, List.set_cons_zero, List.set_cons_succ]
  refine wpAnyH_ready (rs := [2]) (by kernel_rfl) (by simp) ?_
  refine AllReadyH.cons (o := _) rfl (fun K hK => ?_) AllReadyH.nil
  go_simp
  go_at_call 38
  refine (P1.out _).mono ?_
  rintro e u1 ⟨rfl, n1⟩
  have Nu1 := Lib.hid (((Nw.refl w1).draw 1).trans n1)
  clear n1 hHeld
  go_wp2_with fail
  refine hK.out _ _ ?_ (fun hHeld => ?_)
  · exact KeepS.out _ Nu1.out
  clear hK K
  try simp only [List.getElem_toArray, List.getElem_cons_succ, List.getElem_cons_zero, Act.put, List.setIfInBounds_toArray, List.set_cons_zero, List.set_cons_succ]
  refine wpAnyH_take (i := 3) (oi := _) (v := ?_) rfl (by kernel_rfl) (by kernel_rfl) (by kernel_rfl) (fun _ _ _ h => h) (_root_.Or.inl ⟨by rfl, ?_⟩) (by assumption) ?_
  rotate_left
  · intro w hSw
    (try dsimp only at hSw)
    go_simp
    all_goals first | with_reducible rfl | (rw [if_neg (by omega)]; done) | (rw [if_neg (by simp; omega)]; done) | (rw [if_neg (by omega)]; with_reducible rfl) | (rw [if_neg (by simp; omega)]; with_reducible rfl)
  try simp only [List.getElem_toArray, List.getElem_cons_succ, List.getElem_cons_zero, Act.put, List.setIfInBounds_toArray, List.set_cons_zero, List.set_cons_succ]
  refine wpAnyH_take (i := 4) (oi := _) (v := ?_) rfl (by kernel_rfl) (by kernel_rfl) (by kernel_rfl) (fun _ _ _ h => h) (_root_.Or.inl ⟨by rfl, ?_⟩) (by assumption) ?_
  rotate_left
  · intro w hSw
    (try dsimp only at hSw)
    go_simp
    all_goals first | with_reducible rfl | (rw [if_neg (by omega)]; done) | (rw [if_neg (by simp; omega)]; done) | (rw [if_neg (by omega)]; with_reducible rfl) | (rw [if_neg (by simp; omega)]; with_reducible rfl)
  try simp only [List.getElem_toArray, List.getElem_cons_succ, List.getElem_cons_zero, Act.put, List.setIfInBounds_toArray, List.set_cons_zero, List.set_cons_succ]
  refine wpAnyH_ready (rs := [7]) (by kernel_rfl) (by simp) ?_
  refine AllReadyH.cons (o := _) rfl (fun K hK => ?_) AllReadyH.nil
  go_simp
  go_at_call 38
  refine (P2.out _).mono ?_
  rintro e u2 ⟨rfl, n2⟩
  have Nu2 := Lib.hid (Nu1.out.trans n2)
  clear n2 hHeld
  go_wp2_with fail
  refine hK.out _ _ ?_ (fun hHeld => ?_)
  · exact KeepS.out _ Nu2.out
  clear hK K
  try simp only [List.getElem_toArray, List.getElem_cons_succ, List.getElem_cons_zero, Act.put, List.setIfInBounds_toArray, List.set_cons_zero, List.set_cons_succ]
  refine wpAnyH_take (i := 8) (oi := _) (v := ?_) rfl (by kernel_rfl) (by kernel_rfl) (by kernel_rfl) (fun _ _ _ h => h) (_root_.Or.inl ⟨by rfl, ?_⟩) (by assumption) ?_
  rotate_left
  · intro w hSw
    (try dsimp only at hSw)
    go_simp
    all_goals first | with_reducible rfl | (rw [if_neg (by omega)]; done) | (rw [if_neg (by simp; omega)]; done) | (rw [if_neg (by omega)]; with_reducible rfl) | (rw [if_neg (by simp; omega)]; with_reducible rfl)
  try simp only [List.getElem_toArray, List.getElem_cons_succ, List.getElem_cons_zero, Act.put, List.setIfInBounds_toArray, List.set_cons_zero, List.set_cons_succ]
  refine wpAnyH_take (i := 9) (oi := _) (v := ?_) rfl (by kernel_rfl) (by kernel_rfl) (by kernel_rfl) (fun _ _ _ h => h) (_root_.Or.inl ⟨by rfl, ?_⟩) (by assumption) ?_
  rotate_left
  · intro w hSw
    (try dsimp only at hSw)
    go_simp
    all_goals first | with_reducible rfl | (rw [if_neg (by omega)]; done) | (rw [if_neg (by simp; omega)]; done) | (rw [if_neg (by omega)]; with_reducible rfl) | (rw [if_neg (by simp; omega)]; with_reducible rfl)
  try simp only [List.getElem_toArray, List.getElem_cons_succ, List.getElem_cons_zero, Act.put, List.setIfInBounds_toArray, List.set_cons_zero, List.set_cons_succ]
  refine wpAnyH_ready (rs := [12]) (by kernel_rfl) (by simp) ?_
  refine AllReadyH.cons (o := _) rfl (fun K hK => ?_) AllReadyH.nil
  go_simp
  go_at_call 39
  refine (P3.out _).mono ?_
  rintro e u3 ⟨rfl, n3⟩
  have Nu3 := Lib.hid (Nu2.out.trans n3)
  clear n3 hHeld
  go_wp2_with fail
  refine hK.out _ _ ?_ (fun hHeld => ?_)
  · exact KeepS.out _ Nu3.out
  clear hK K
  try simp only [List.getElem_toArray, List.getElem_cons_succ, List.getElem_cons_zero, Act.put, List.setIfInBounds_toArray, List.set_cons_zero, List.set_cons_succ]
  refine wpAnyH_take (i := 13) (oi := _) (v := ?_) rfl (by kernel_rfl) (by kernel_rfl) (by kernel_rfl) (fun _ _ _ h => h) (_root_.Or.inl ⟨by rfl, ?_⟩) (by assumption) ?_
  rotate_left
  · intro w hSw
    (try dsimp only at hSw)
    go_simp
    all_goals first | with_reducible rfl | (rw [if_neg (by omega)]; done) | (rw [if_neg (by simp; omega)]; done) | (rw [if_neg (by omega)]; with_reducible rfl) | (rw [if_neg (by simp; omega)]; with_reducible rfl)
  try simp only [List.getElem_toArray, List.getElem_cons_succ, List.getElem_cons_zero, Act.put, List.setIfInBounds_toArray, List.set_cons_zero, List.set_cons_succ]
  refine wpAnyH_take (i := 14) (oi := _) (v := ?_) rfl (by kernel_rfl) (by kernel_rfl) (by kernel_rfl) (fun _ _ _ h => h) (_root_.Or.inl ⟨by rfl, ?_⟩) (by assumption) ?_
  rotate_left
  · intro w hSw
    (try dsimp only at hSw)
    go_simp
    all_goals first | with_reducible rfl | (rw [if_neg (by omega)]; done) | (rw [if_neg (by simp; omega)]; done) | (rw [if_neg (by omega)]; with_reducible rfl) | (rw [if_neg (by simp; omega)]; with_reducible rfl)
  try simp only [List.getElem_toArray, List.getElem_cons_succ, List.getElem_cons_zero, Act.put, List.setIfInBounds_toArray, List.set_cons_zero, List.set_cons_succ]
  refine wpAnyH_ready (rs := [17]) (by kernel_rfl) (by simp) ?_
  refine AllReadyH.cons (o := _) rfl (fun K hK => ?_) AllReadyH.nil
  go_simp
  go_at_call 39
  refine (P4.out _).mono ?_
  rintro e u4 ⟨rfl, n4⟩
  have Nu4 := Lib.hid (Nu3.out.trans n4)
  clear n4 hHeld
  go_wp2_with fail
  refine hK.out _ _ ?_ (fun hHeld => ?_)
  · exact KeepS.out _ Nu4.out
  clear hK K
  try simp only [List.getElem_toArray, List.getElem_cons_succ, List.getElem_cons_zero, Act.put, List.setIfInBounds_toArray, List.set_cons_zero, List.set_cons_succ]
  refine wpAnyH_take (i := 18) (oi := _) (v := ?_) rfl (by kernel_rfl) (by kernel_rfl) (by kernel_rfl) (fun _ _ _ h => h) (_root_.Or.inl ⟨by rfl, ?_⟩) (by assumption) ?_
  rotate_left
  · intro w hSw
    (try dsimp only at hSw)
    go_simp
    all_goals first | with_reducible rfl | (rw [if_neg (by omega)]; done) | (rw [if_neg (by simp; omega)]; done) | (rw [if_neg (by omega)]; with_reducible rfl) | (rw [if_neg (by simp; omega)]; with_reducible rfl)
  try simp only [List.getElem_toArray, List.getElem_cons_succ, List.getElem_cons_zero, Act.put, List.setIfInBounds_toArray, List.set_cons_zero, List.set_cons_succ]
  refine wpAnyH_take (i := 19) (oi := _) (v := ?_) rfl (by kernel_rfl) (by kernel_rfl) (by kernel_rfl) (fun _ _ _ h => h) (_root_.Or.inl ⟨by rfl, ?_⟩) (by assumption) ?_
  rotate_left
  · intro w hSw
    (try dsimp only at hSw)
    go_simp
    all_goals first | with_reducible rfl | (rw [if_neg (by omega)]; done) | (rw [if_neg (by simp; omega)]; done) | (rw [if_neg (by omega)]; with_reducible rfl) | (rw [if_neg (by simp; omega)]; with_reducible rfl)
  try simp only [List.getElem_toArray, List.getElem_cons_succ, List.getElem_cons_zero, Act.put, List.setIfInBounds_toArray, List.set_cons_zero, List.set_cons_succ]
  refine wpAnyH_take (i := 20) (oi := _) (v := ?_) rfl (by kernel_rfl) (by kernel_rfl) (by kernel_rfl) (fun _ _ _ h => h) (_root_.Or.inl ⟨by rfl, ?_⟩) (by assumption) ?_
  rotate_left
  · intro w hSw
    (try dsimp only at hSw)
    go_simp
    all_goals first | with_reducible rfl | (rw [if_neg (by omega)]; done) | (rw [if_neg (by simp; omega)]; done) | (rw [if_neg (by omega)]; with_reducible rfl) | (rw [if_neg (by simp; omega)]; with_reducible rfl)
  try simp only [List.getElem_toArray, List.getElem_cons_succ, List.getElem_cons_zero, Act.put, List.setIfInBounds_toArray, List.set_cons_zero, List.set_cons_succ]
  refine wpAnyH_done (by kernel_rfl) ?_ _
  clear hHeld
  have N4 := Lib.hid (N1.out.trans Nu4.out)
  have S4 := Lib.hid (S1.out.nw Nu4.out)
  clear Nu1 Nu2 Nu3
  obtain ⟨⟨e0, g0⟩, ⟨e1, g1'⟩, ⟨e2, g2'⟩, ⟨e3, g3'⟩, ⟨e4, g4'⟩, ⟨e5, g5'⟩⟩ := six_at S4.out
  go_wp2_with fail
  clear e0 g0 e1 g1' e2 g2' e3 g3' e4 g4' e5 g5' KeepS P1 P2 P3 P4
  go_loopw [3, 34] (fun o i wr => FmSI hd bs nb u4 o i wr) (fun _ i _ => nb - (intOf i).toNat)
  case atStart => exact ⟨0, hd, by omega, rfl, congrArg Value.string (by apply ByteArray.ext; rw [Hh.out]; simp [tScore]), by simp [bodsF], by omega, Nw.refl _⟩
  case round =>
    obtain ⟨j, l, hj, rfl, rfl, hl, hll, hnw⟩ := hrel
    obtain ⟨wo, hwo⟩ : ∃ wo, wo = wr := ⟨_, rfl⟩
    subst hwo
    have Nr := Lib.hid hnw
    have Ls := Lib.hid hl
    clear hnw hl
    by_cases hlt : j < nb
    · obtain ⟨ms, hmk⟩ : ∃ ms, bs[j]? = some ms := ⟨bs[j]'(by rw [← Hn.out.1]; exact hlt), List.getElem?_eq_getElem _⟩
      obtain ⟨g, cap, a, c, hv, hcap, hmax, hgs, e1, own⟩ := (((H.out.bods.nw N4.out).nw Nr.out)).at Hn.out.1 hmk
      cases hv
      have hbk := H.out.bok ms (List.mem_of_getElem? hmk)
      have Own := Lib.hid (own.alloc (.cells #[.slice a ms.length c] 65 (0, 0)))
      have Fm := Lib.hid (fun w hw => specFormatBody_f ms hbk.2 ms.length base (.slice a ms.length c) rfl (by omega) w hw)
      have Mk := Lib.hid hmk
      have A1 := Lib.hid (Nr.out.alloc (.cells #[.slice a ms.length c] 65 (0, 0)))
      have hbl := bodF_len ms hbk.1
      have Hbf := Lib.hid (show bodF ms = tBody ++ modesF ms from rfl)
      have hml := modesF_len ms
      have hm4 := hbk.1
      unfold maxLen at hmax
      clear own hmk hbk
      generalize modesF ms = t at *
      go_wp2_with fail
      refine (Fm.out _ Own.out).mono ?_
      rintro e v5 ⟨rfl, n5⟩
      have N5 := Lib.hid (A1.out.trans n5)
      clear n5 e1
      go_wp2_with fail
      go_roundw
      case rel =>
        refine ⟨j + 1, l ++ (tBody ++ t), by omega, by rw [show ((j + 1 : Nat) : Int) = (j : Int) + 1 from by omega], congrArg Value.string (by apply ByteArray.ext; simp [tBody]), ?_, by simp [tBody]; omega, N5.out⟩
        rw [bodsF_snoc bs j ms Mk.out, Ls.out, Hbf.out, List.append_assoc]
      case measure => simp only [intOf]; omega
    · have hjn : j = nb := by omega
      have Lb := Lib.hid (show l = hd ++ bodsF bs from by have h := Ls.out; rwa [List.take_of_length_le (by rw [← Hn.out.1]; omega)] at h)
      have S5 := Lib.hid (S4.out.nw Nr.out)
      have N5 := Lib.hid (N4.out.trans Nr.out)
      have hll5 : l.length ≤ 4000 := by omega
      clear hjn hll
      obtain ⟨⟨e0, g0⟩, ⟨e1, g1'⟩, ⟨e2, g2'⟩, ⟨e3, g3'⟩, ⟨e4, g4'⟩, ⟨e5, g5'⟩⟩ := six_at S5.out
      go_wp2_with fail
      clear e0 g0 e1 g1' e2 g2' e3 g3' e4 g4' e5 g5'
      go_loopw [3, 47] (fun o i wr => FmEI l es ne wo o i wr) (fun _ i _ => ne - (intOf i).toNat)
      case atStart => exact ⟨0, l, by omega, rfl, rfl, by simp [evsF], by omega, Nw.refl _⟩
      case round =>
        obtain ⟨i, z, hi, rfl, rfl, hz, hzl, hnw⟩ := hrel
        have Nx := Lib.hid hnw
        have Qs := Lib.hid hz
        clear hnw hz
        have hzl2 : z.length ≤ 10000 := by omega
        by_cases hlt2 : i < ne
        · obtain ⟨e, hek⟩ : ∃ e, es[i]? = some e := ⟨es[i]'(by rw [← Hn.out.2]; exact hlt2), List.getElem?_eq_getElem _⟩
          have oe := own_nw (own_nw H.out.evs N5.out) Nx.out
          rw [← Hn.out.2] at oe
          obtain ⟨g, cap, hv, hcap, hmax, hgs, c0, c1, c2, c3, c4, c5⟩ := own_event oe Hn.out.2.symm hek
          cases hv
          have hev : EvOk L bs.length e.t e.k e.b e.s e.m e.f := H.out.eok e (List.mem_of_getElem? hek)
          rw [← Hn.out.1] at hev
          obtain ⟨q0, q1, q2, q3, hkk⟩ := hev
          have Mk := Lib.hid hek
          unfold maxLen at hmax
          have A4 := Lib.hid (Nx.out.alloc (.cells #[.int .i64 e.t, .int .i64 e.k, .int .i64 e.b, .int .i64 e.s, .int .i64 e.m, .float .f32 e.f] 68 (0, 0)))
          have E4 := Lib.hid (HasC.new wr 68 (.int .i64 e.t) (.int .i64 e.k) (.int .i64 e.b) (.int .i64 e.s) (.int .i64 e.m) (.float .f32 e.f))
          have Ct := Lib.hid (fun w => l1Number_z e.t ⟨by omega, by omega⟩ w)
          have P2 := Lib.hid (fun w => l1Number_z e.b ⟨by omega, by omega⟩ w)
          have l1 := numF_len e.t.toNat (by omega)
          have l2 := numF_len e.b.toNat (by omega)
          have Hev := Lib.hid (show evF e = tAt ++ numF e.t.toNat ++ kindF e ++ [10] from rfl)
          have HkF : kindF e = if e.k = 1 then [32, 115, 116, 114, 105, 107, 101, 32] ++ numF e.b.toNat ++ [32] ++ numF e.s.toNat ++ [32] ++ numF e.m.toNat ++ [32] ++ dblL (wid e.f)
  else if e.k = 2 then [32, 100, 97, 109, 112, 32] ++ numF e.b.toNat ++ [32] ++ dblL (wid e.f)
  else [32, 115, 116, 111, 112, 32] ++ numF e.b.toNat := rfl
          clear hek oe
          generalize numF e.t.toNat = t1 at *
          generalize numF e.b.toNat = t2 at *
          go_wp2_with fail
          refine (Ct.out _).mono ?_
          rintro x5 u0 ⟨rfl, n6⟩
          have N6 := Lib.hid (A4.out.trans n6)
          have E6 := Lib.hid (E4.out.nw n6)
          obtain ⟨q, hq⟩ : ∃ q, q = wr.heap.size := ⟨_, rfl⟩
          rw [← hq] at E6 ⊢
          clear n6 c0 c1 c2 c3 c4 c5 hq E4
          obtain ⟨⟨y0, -⟩, ⟨y1, -⟩, ⟨y2, -⟩, ⟨y3, -⟩, ⟨y4, -⟩, y5, -⟩ := six_at E6.out
          have KeepS := Lib.hid (show ∀ W, Nw u0 W → W.cell? ⟨q, 2, none⟩ = some (.int .i64 e.b) ∧ W.cell? ⟨q, 3, none⟩ = some (.int .i64 e.s) ∧ W.cell? ⟨q, 4, none⟩ = some (.int .i64 e.m) ∧ W.cell? ⟨q, 5, none⟩ = some (.float .f32 e.f) from fun W hW => by
            obtain ⟨⟨y0, -⟩, ⟨y1, -⟩, ⟨y2, -⟩, ⟨y3, -⟩, ⟨y4, -⟩, y5, -⟩ := six_at (E6.out.nw hW)
            exact ⟨y2, y3, y4, y5⟩)
          rcases hkk with ⟨hk1, s0, s1, m0, m1, f0, -⟩ | ⟨hk2, -, -, hf⟩ | ⟨hk3, -, -, -⟩
          · rw [if_pos hk1] at HkF
            have Hk := Lib.hid HkF
            have P3 := Lib.hid (fun w => l1Number_z e.s ⟨by omega, by omega⟩ w)
            have P4 := Lib.hid (fun w => l1Number_z e.m ⟨by omega, by omega⟩ w)
            have P5 := Lib.hid (fun w => specSgl_f e.f f0 w)
            have l3 := numF_len e.s.toNat (by omega)
            have l4 := numF_len e.m.toNat (by omega)
            have l5 := dblL_len (wid e.f)
            clear HkF f0
            generalize numF e.s.toNat = t3 at *
            generalize numF e.m.toNat = t4 at *
            generalize dblL (wid e.f) = t5 at *
            rw [hk1] at y1
            go_upto_region 16 with fail
            refine wp_region_held_drew (S := fun W' => W'.cell? ⟨q, 2, none⟩ = some (.int .i64 e.b) ∧ W'.cell? ⟨q, 3, none⟩ = some (.int .i64 e.s) ∧ W'.cell? ⟨q, 4, none⟩ = some (.int .i64 e.m) ∧ W'.cell? ⟨q, 5, none⟩ = some (.float .f32 e.f)) (by kernel_rfl) (KeepS.out _ ((Nw.refl u0).draw 1)) (fun hHeld => ?_)
            refine wpAnyH_take (i := 0) (oi := _) (v := ?_) rfl (by kernel_rfl) (by kernel_rfl) (by kernel_rfl) (fun _ _ _ h => h) (_root_.Or.inl ⟨by rfl, ?_⟩) (by assumption) ?_
            rotate_left
            · intro w hSw
              (try dsimp only at hSw)
              go_simp
              all_goals first | with_reducible rfl | (rw [if_neg (by omega)]; done) | (rw [if_neg (by simp; omega)]; done) | (rw [if_neg (by omega)]; with_reducible rfl) | (rw [if_neg (by simp; omega)]; with_reducible rfl)
            try simp only [List.getElem_toArray, List.getElem_cons_succ, List.getElem_cons_zero, Act.put, List.setIfInBounds_toArray, List.set_cons_zero, List.set_cons_succ]
            refine wpAnyH_take (i := 1) (oi := _) (v := ?_) rfl (by kernel_rfl) (by kernel_rfl) (by kernel_rfl) (fun _ _ _ h => h) (_root_.Or.inl ⟨by rfl, ?_⟩) (by assumption) ?_
            rotate_left
            · intro w hSw
              (try dsimp only at hSw)
              go_simp
              all_goals first | with_reducible rfl | (rw [if_neg (by omega)]; done) | (rw [if_neg (by simp; omega)]; done) | (rw [if_neg (by omega)]; with_reducible rfl) | (rw [if_neg (by simp; omega)]; with_reducible rfl)
            try simp only [List.getElem_toArray, List.getElem_cons_succ, List.getElem_cons_zero, Act.put, List.setIfInBounds_toArray, List.set_cons_zero, List.set_cons_succ]
            refine wpAnyH_take (i := 2) (oi := _) (v := ?_) rfl (by kernel_rfl) (by kernel_rfl) (by kernel_rfl) (fun _ _ _ h => h) (_root_.Or.inl ⟨by rfl, ?_⟩) (by assumption) ?_
            rotate_left
            · intro w hSw
              (try dsimp only at hSw)
              go_simp
              all_goals first | with_reducible rfl | (rw [if_neg (by omega)]; done) | (rw [if_neg (by simp; omega)]; done) | (rw [if_neg (by omega)]; with_reducible rfl) | (rw [if_neg (by simp; omega)]; with_reducible rfl)
            try simp only [List.getElem_toArray, List.getElem_cons_succ, List.getElem_cons_zero, Act.put, List.setIfInBounds_toArray, List.set_cons_zero, List.set_cons_succ]
            refine wpAnyH_take (i := 3) (oi := _) (v := ?_) rfl (by kernel_rfl) (by kernel_rfl) (by kernel_rfl) (fun _ _ _ h => h) (_root_.Or.inl ⟨by rfl, ?_⟩) (by assumption) ?_
            rotate_left
            · intro w hSw
              (try dsimp only at hSw)
              go_simp
              all_goals first | with_reducible rfl | (rw [if_neg (by omega)]; done) | (rw [if_neg (by simp; omega)]; done) | (rw [if_neg (by omega)]; with_reducible rfl) | (rw [if_neg (by simp; omega)]; with_reducible rfl)
            try simp only [List.getElem_toArray, List.getElem_cons_succ, List.getElem_cons_zero, Act.put, List.setIfInBounds_toArray, List.set_cons_zero, List.set_cons_succ]
            refine wpAnyH_take (i := 7) (oi := _) (v := ?_) rfl (by kernel_rfl) (by kernel_rfl) (by kernel_rfl) (fun _ _ _ h => h) (_root_.Or.inl ⟨by rfl, ?_⟩) (by assumption) ?_
            rotate_left
            · intro w hSw
              (try dsimp only at hSw)
              go_simp
              all_goals first | with_reducible rfl | (rw [if_neg (by omega)]; done) | (rw [if_neg (by simp; omega)]; done) | (rw [if_neg (by omega)]; with_reducible rfl) | (rw [if_neg (by simp; omega)]; with_reducible rfl)
            try simp only [List.getElem_toArray, List.getElem_cons_succ, List.getElem_cons_zero, Act.put, List.setIfInBounds_toArray, List.set_cons_zero, List.set_cons_succ]
            refine wpAnyH_take (i := 8) (oi := _) (v := ?_) rfl (by kernel_rfl) (by kernel_rfl) (by kernel_rfl) (fun _ _ _ h => h) (_root_.Or.inl ⟨by rfl, ?_⟩) (by assumption) ?_
            rotate_left
            · intro w hSw
              (try dsimp only at hSw)
              go_simp
              all_goals first | with_reducible rfl | (rw [if_neg (by omega)]; done) | (rw [if_neg (by simp; omega)]; done) | (rw [if_neg (by omega)]; with_reducible rfl) | (rw [if_neg (by simp; omega)]; with_reducible rfl)
            try simp only [List.getElem_toArray, List.getElem_cons_succ, List.getElem_cons_zero, Act.put, List.setIfInBounds_toArray, List.set_cons_zero, List.set_cons_succ]
            refine wpAnyH_take (i := 12) (oi := _) (v := ?_) rfl (by kernel_rfl) (by kernel_rfl) (by kernel_rfl) (fun _ _ _ h => h) (_root_.Or.inl ⟨by rfl, ?_⟩) (by assumption) ?_
            rotate_left
            · intro w hSw
              (try dsimp only at hSw)
              go_simp
              all_goals first | with_reducible rfl | (rw [if_neg (by omega)]; done) | (rw [if_neg (by simp; omega)]; done) | (rw [if_neg (by omega)]; with_reducible rfl) | (rw [if_neg (by simp; omega)]; with_reducible rfl)
            try simp only [List.getElem_toArray, List.getElem_cons_succ, List.getElem_cons_zero, Act.put, List.setIfInBounds_toArray, List.set_cons_zero, List.set_cons_succ]
            refine wpAnyH_take (i := 13) (oi := _) (v := ?_) rfl (by kernel_rfl) (by kernel_rfl) (by kernel_rfl) (fun _ _ _ h => h) (_root_.Or.inl ⟨by rfl, ?_⟩) (by assumption) ?_
            rotate_left
            · intro w hSw
              (try dsimp only at hSw)
              go_simp
              all_goals first | with_reducible rfl | (rw [if_neg (by omega)]; done) | (rw [if_neg (by simp; omega)]; done) | (rw [if_neg (by omega)]; with_reducible rfl) | (rw [if_neg (by simp; omega)]; with_reducible rfl)
            try simp only [List.getElem_toArray, List.getElem_cons_succ, List.getElem_cons_zero, Act.put, List.setIfInBounds_toArray, List.set_cons_zero, List.set_cons_succ]
            refine wpAnyH_take (i := 17) (oi := _) (v := ?_) rfl (by kernel_rfl) (by kernel_rfl) (by kernel_rfl) (fun _ _ _ h => h) (_root_.Or.inl ⟨by rfl, ?_⟩) (by assumption) ?_
            rotate_left
            · intro w hSw
              (try dsimp only at hSw)
              go_simp
              all_goals first | with_reducible rfl | (rw [if_neg (by omega)]; done) | (rw [if_neg (by simp; omega)]; done) | (rw [if_neg (by omega)]; with_reducible rfl) | (rw [if_neg (by simp; omega)]; with_reducible rfl)
            try simp only [List.getElem_toArray, List.getElem_cons_succ, List.getElem_cons_zero, Act.put, List.setIfInBounds_toArray, List.set_cons_zero, List.set_cons_succ]
            refine wpAnyH_take (i := 18) (oi := _) (v := ?_) rfl (by kernel_rfl) (by kernel_rfl) (by kernel_rfl) (fun _ _ _ h => h) (_root_.Or.inl ⟨by rfl, ?_⟩) (by assumption) ?_
            rotate_left
            · intro w hSw
              (try dsimp only at hSw)
              go_simp
              all_goals first | with_reducible rfl | (rw [if_neg (by omega)]; done) | (rw [if_neg (by simp; omega)]; done) | (rw [if_neg (by omega)]; with_reducible rfl) | (rw [if_neg (by simp; omega)]; with_reducible rfl)
            try simp only [List.getElem_toArray, List.getElem_cons_succ, List.getElem_cons_zero, Act.put, List.setIfInBounds_toArray, List.set_cons_zero, List.set_cons_succ]
            refine wpAnyH_ready (rs := [4]) (by kernel_rfl) (by simp) ?_
            refine AllReadyH.cons (o := _) rfl (fun K hK => ?_) AllReadyH.nil
            go_simp
            go_at_call 38
            refine (P2.out _).mono ?_
            rintro e u5 ⟨rfl, n5⟩
            have Nu5 := Lib.hid (((Nw.refl u0).draw 1).trans n5)
            clear n5 hHeld
            go_wp2_with fail
            refine hK.out _ _ ?_ (fun hHeld => ?_)
            · exact KeepS.out _ Nu5.out
            clear hK K
            try simp only [List.getElem_toArray, List.getElem_cons_succ, List.getElem_cons_zero, Act.put, List.setIfInBounds_toArray, List.set_cons_zero, List.set_cons_succ]
            refine wpAnyH_take (i := 5) (oi := _) (v := ?_) rfl (by kernel_rfl) (by kernel_rfl) (by kernel_rfl) (fun _ _ _ h => h) (_root_.Or.inl ⟨by rfl, ?_⟩) (by assumption) ?_
            rotate_left
            · intro w hSw
              (try dsimp only at hSw)
              go_simp
              all_goals first | with_reducible rfl | (rw [if_neg (by omega)]; done) | (rw [if_neg (by simp; omega)]; done) | (rw [if_neg (by omega)]; with_reducible rfl) | (rw [if_neg (by simp; omega)]; with_reducible rfl)
            try simp only [List.getElem_toArray, List.getElem_cons_succ, List.getElem_cons_zero, Act.put, List.setIfInBounds_toArray, List.set_cons_zero, List.set_cons_succ]
            refine wpAnyH_take (i := 6) (oi := _) (v := ?_) rfl (by kernel_rfl) (by kernel_rfl) (by kernel_rfl) (fun _ _ _ h => h) (_root_.Or.inl ⟨by rfl, ?_⟩) (by assumption) ?_
            rotate_left
            · intro w hSw
              (try dsimp only at hSw)
              go_simp
              all_goals first | with_reducible rfl | (rw [if_neg (by omega)]; done) | (rw [if_neg (by simp; omega)]; done) | (rw [if_neg (by omega)]; with_reducible rfl) | (rw [if_neg (by simp; omega)]; with_reducible rfl)
            try simp only [List.getElem_toArray, List.getElem_cons_succ, List.getElem_cons_zero, Act.put, List.setIfInBounds_toArray, List.set_cons_zero, List.set_cons_succ]
            refine wpAnyH_ready (rs := [9]) (by kernel_rfl) (by simp) ?_
            refine AllReadyH.cons (o := _) rfl (fun K hK => ?_) AllReadyH.nil
            go_simp
            go_at_call 38
            refine (P3.out _).mono ?_
            rintro e u6 ⟨rfl, n6⟩
            have Nu6 := Lib.hid (Nu5.out.trans n6)
            clear n6 hHeld
            go_wp2_with fail
            refine hK.out _ _ ?_ (fun hHeld => ?_)
            · exact KeepS.out _ Nu6.out
            clear hK K
            try simp only [List.getElem_toArray, List.getElem_cons_succ, List.getElem_cons_zero, Act.put, List.setIfInBounds_toArray, List.set_cons_zero, List.set_cons_succ]
            refine wpAnyH_take (i := 10) (oi := _) (v := ?_) rfl (by kernel_rfl) (by kernel_rfl) (by kernel_rfl) (fun _ _ _ h => h) (_root_.Or.inl ⟨by rfl, ?_⟩) (by assumption) ?_
            rotate_left
            · intro w hSw
              (try dsimp only at hSw)
              go_simp
              all_goals first | with_reducible rfl | (rw [if_neg (by omega)]; done) | (rw [if_neg (by simp; omega)]; done) | (rw [if_neg (by omega)]; with_reducible rfl) | (rw [if_neg (by simp; omega)]; with_reducible rfl)
            try simp only [List.getElem_toArray, List.getElem_cons_succ, List.getElem_cons_zero, Act.put, List.setIfInBounds_toArray, List.set_cons_zero, List.set_cons_succ]
            refine wpAnyH_take (i := 11) (oi := _) (v := ?_) rfl (by kernel_rfl) (by kernel_rfl) (by kernel_rfl) (fun _ _ _ h => h) (_root_.Or.inl ⟨by rfl, ?_⟩) (by assumption) ?_
            rotate_left
            · intro w hSw
              (try dsimp only at hSw)
              go_simp
              all_goals first | with_reducible rfl | (rw [if_neg (by omega)]; done) | (rw [if_neg (by simp; omega)]; done) | (rw [if_neg (by omega)]; with_reducible rfl) | (rw [if_neg (by simp; omega)]; with_reducible rfl)
            try simp only [List.getElem_toArray, List.getElem_cons_succ, List.getElem_cons_zero, Act.put, List.setIfInBounds_toArray, List.set_cons_zero, List.set_cons_succ]
            refine wpAnyH_ready (rs := [14]) (by kernel_rfl) (by simp) ?_
            refine AllReadyH.cons (o := _) rfl (fun K hK => ?_) AllReadyH.nil
            go_simp
            go_at_call 38
            refine (P4.out _).mono ?_
            rintro e u7 ⟨rfl, n7⟩
            have Nu7 := Lib.hid (Nu6.out.trans n7)
            clear n7 hHeld
            go_wp2_with fail
            refine hK.out _ _ ?_ (fun hHeld => ?_)
            · exact KeepS.out _ Nu7.out
            clear hK K
            try simp only [List.getElem_toArray, List.getElem_cons_succ, List.getElem_cons_zero, Act.put, List.setIfInBounds_toArray, List.set_cons_zero, List.set_cons_succ]
            refine wpAnyH_take (i := 15) (oi := _) (v := ?_) rfl (by kernel_rfl) (by kernel_rfl) (by kernel_rfl) (fun _ _ _ h => h) (_root_.Or.inl ⟨by rfl, ?_⟩) (by assumption) ?_
            rotate_left
            · intro w hSw
              (try dsimp only at hSw)
              go_simp
              all_goals first | with_reducible rfl | (rw [if_neg (by omega)]; done) | (rw [if_neg (by simp; omega)]; done) | (rw [if_neg (by omega)]; with_reducible rfl) | (rw [if_neg (by simp; omega)]; with_reducible rfl)
            try simp only [List.getElem_toArray, List.getElem_cons_succ, List.getElem_cons_zero, Act.put, List.setIfInBounds_toArray, List.set_cons_zero, List.set_cons_succ]
            refine wpAnyH_take (i := 16) (oi := _) (v := ?_) rfl (by kernel_rfl) (by kernel_rfl) (by kernel_rfl) (fun _ _ _ h => h) (_root_.Or.inl ⟨by rfl, ?_⟩) (by assumption) ?_
            rotate_left
            · intro w hSw
              (try dsimp only at hSw)
              go_simp
              all_goals first | with_reducible rfl | (rw [if_neg (by omega)]; done) | (rw [if_neg (by simp; omega)]; done) | (rw [if_neg (by omega)]; with_reducible rfl) | (rw [if_neg (by simp; omega)]; with_reducible rfl)
            try simp only [List.getElem_toArray, List.getElem_cons_succ, List.getElem_cons_zero, Act.put, List.setIfInBounds_toArray, List.set_cons_zero, List.set_cons_succ]
            refine wpAnyH_ready (rs := [19]) (by kernel_rfl) (by simp) ?_
            refine AllReadyH.cons (o := _) rfl (fun K hK => ?_) AllReadyH.nil
            go_simp
            go_at_call 39
            refine (P5.out _).mono ?_
            rintro e u8 ⟨rfl, n8⟩
            have Nu8 := Lib.hid (Nu7.out.trans n8)
            clear n8 hHeld
            go_wp2_with fail
            refine hK.out _ _ ?_ (fun hHeld => ?_)
            · exact KeepS.out _ Nu8.out
            clear hK K
            try simp only [List.getElem_toArray, List.getElem_cons_succ, List.getElem_cons_zero, Act.put, List.setIfInBounds_toArray, List.set_cons_zero, List.set_cons_succ]
            refine wpAnyH_take (i := 20) (oi := _) (v := ?_) rfl (by kernel_rfl) (by kernel_rfl) (by kernel_rfl) (fun _ _ _ h => h) (_root_.Or.inl ⟨by rfl, ?_⟩) (by assumption) ?_
            rotate_left
            · intro w hSw
              (try dsimp only at hSw)
              go_simp
              all_goals first | with_reducible rfl | (rw [if_neg (by omega)]; done) | (rw [if_neg (by simp; omega)]; done) | (rw [if_neg (by omega)]; with_reducible rfl) | (rw [if_neg (by simp; omega)]; with_reducible rfl)
            try simp only [List.getElem_toArray, List.getElem_cons_succ, List.getElem_cons_zero, Act.put, List.setIfInBounds_toArray, List.set_cons_zero, List.set_cons_succ]
            refine wpAnyH_take (i := 21) (oi := _) (v := ?_) rfl (by kernel_rfl) (by kernel_rfl) (by kernel_rfl) (fun _ _ _ h => h) (_root_.Or.inl ⟨by rfl, ?_⟩) (by assumption) ?_
            rotate_left
            · intro w hSw
              (try dsimp only at hSw)
              go_simp
              all_goals first | with_reducible rfl | (rw [if_neg (by omega)]; done) | (rw [if_neg (by simp; omega)]; done) | (rw [if_neg (by omega)]; with_reducible rfl) | (rw [if_neg (by simp; omega)]; with_reducible rfl)
            try simp only [List.getElem_toArray, List.getElem_cons_succ, List.getElem_cons_zero, Act.put, List.setIfInBounds_toArray, List.set_cons_zero, List.set_cons_succ]
            refine wpAnyH_done (by kernel_rfl) ?_ _
            clear hHeld
            go_wp2_with fail
            go_roundw
            case rel =>
              have X := fmE_next (n := ne) (wr := wr) (m := tAt ++ t1 ++ ([32, 115, 116, 114, 105, 107, 101, 32] ++ t2 ++ [32] ++ t3 ++ [32] ++ t4 ++ [32] ++ t5) ++ [10]) Qs.out Mk.out hlt2 hzl (by rw [Hev.out, Hk.out]) (by simp [tAt]; omega) (N6.out.trans Nu8.out)
              exact (congrArg (fun b : ByteArray => FmEI l es ne wo (.string b) (.int .i64 ((i : Int) + 1)) _) (show (⟨(z ++ (tAt ++ t1 ++ ([32, 115, 116, 114, 105, 107, 101, 32] ++ t2 ++ [32] ++ t3 ++ [32] ++ t4 ++ [32] ++ t5) ++ [10])).toArray⟩ : ByteArray) = _ from by apply ByteArray.ext; simp [tAt])).mp X
            case measure => simp only [intOf]; omega
          · rw [if_neg (by omega), if_pos hk2] at HkF
            have Hk := Lib.hid HkF
            have P5 := Lib.hid (fun w => specSgl_f e.f hf.1 w)
            have l5 := dblL_len (wid e.f)
            clear HkF hf
            generalize dblL (wid e.f) = t5 at *
            rw [hk2] at y1
            go_upto_region 18 with fail
            refine wp_region_held_drew (S := fun W' => W'.cell? ⟨q, 2, none⟩ = some (.int .i64 e.b) ∧ W'.cell? ⟨q, 3, none⟩ = some (.int .i64 e.s) ∧ W'.cell? ⟨q, 4, none⟩ = some (.int .i64 e.m) ∧ W'.cell? ⟨q, 5, none⟩ = some (.float .f32 e.f)) (by kernel_rfl) (KeepS.out _ ((Nw.refl u0).draw 1)) (fun hHeld => ?_)
            refine wpAnyH_take (i := 0) (oi := _) (v := ?_) rfl (by kernel_rfl) (by kernel_rfl) (by kernel_rfl) (fun _ _ _ h => h) (_root_.Or.inl ⟨by rfl, ?_⟩) (by assumption) ?_
            rotate_left
            · intro w hSw
              (try dsimp only at hSw)
              go_simp
              all_goals first | with_reducible rfl | (rw [if_neg (by omega)]; done) | (rw [if_neg (by simp; omega)]; done) | (rw [if_neg (by omega)]; with_reducible rfl) | (rw [if_neg (by simp; omega)]; with_reducible rfl)
            try simp only [List.getElem_toArray, List.getElem_cons_succ, List.getElem_cons_zero, Act.put, List.setIfInBounds_toArray, List.set_cons_zero, List.set_cons_succ]
            refine wpAnyH_take (i := 1) (oi := _) (v := ?_) rfl (by kernel_rfl) (by kernel_rfl) (by kernel_rfl) (fun _ _ _ h => h) (_root_.Or.inl ⟨by rfl, ?_⟩) (by assumption) ?_
            rotate_left
            · intro w hSw
              (try dsimp only at hSw)
              go_simp
              all_goals first | with_reducible rfl | (rw [if_neg (by omega)]; done) | (rw [if_neg (by simp; omega)]; done) | (rw [if_neg (by omega)]; with_reducible rfl) | (rw [if_neg (by simp; omega)]; with_reducible rfl)
            try simp only [List.getElem_toArray, List.getElem_cons_succ, List.getElem_cons_zero, Act.put, List.setIfInBounds_toArray, List.set_cons_zero, List.set_cons_succ]
            refine wpAnyH_take (i := 2) (oi := _) (v := ?_) rfl (by kernel_rfl) (by kernel_rfl) (by kernel_rfl) (fun _ _ _ h => h) (_root_.Or.inl ⟨by rfl, ?_⟩) (by assumption) ?_
            rotate_left
            · intro w hSw
              (try dsimp only at hSw)
              go_simp
              all_goals first | with_reducible rfl | (rw [if_neg (by omega)]; done) | (rw [if_neg (by simp; omega)]; done) | (rw [if_neg (by omega)]; with_reducible rfl) | (rw [if_neg (by simp; omega)]; with_reducible rfl)
            try simp only [List.getElem_toArray, List.getElem_cons_succ, List.getElem_cons_zero, Act.put, List.setIfInBounds_toArray, List.set_cons_zero, List.set_cons_succ]
            refine wpAnyH_take (i := 3) (oi := _) (v := ?_) rfl (by kernel_rfl) (by kernel_rfl) (by kernel_rfl) (fun _ _ _ h => h) (_root_.Or.inl ⟨by rfl, ?_⟩) (by assumption) ?_
            rotate_left
            · intro w hSw
              (try dsimp only at hSw)
              go_simp
              all_goals first | with_reducible rfl | (rw [if_neg (by omega)]; done) | (rw [if_neg (by simp; omega)]; done) | (rw [if_neg (by omega)]; with_reducible rfl) | (rw [if_neg (by simp; omega)]; with_reducible rfl)
            try simp only [List.getElem_toArray, List.getElem_cons_succ, List.getElem_cons_zero, Act.put, List.setIfInBounds_toArray, List.set_cons_zero, List.set_cons_succ]
            refine wpAnyH_take (i := 7) (oi := _) (v := ?_) rfl (by kernel_rfl) (by kernel_rfl) (by kernel_rfl) (fun _ _ _ h => h) (_root_.Or.inl ⟨by rfl, ?_⟩) (by assumption) ?_
            rotate_left
            · intro w hSw
              (try dsimp only at hSw)
              go_simp
              all_goals first | with_reducible rfl | (rw [if_neg (by omega)]; done) | (rw [if_neg (by simp; omega)]; done) | (rw [if_neg (by omega)]; with_reducible rfl) | (rw [if_neg (by simp; omega)]; with_reducible rfl)
            try simp only [List.getElem_toArray, List.getElem_cons_succ, List.getElem_cons_zero, Act.put, List.setIfInBounds_toArray, List.set_cons_zero, List.set_cons_succ]
            refine wpAnyH_take (i := 8) (oi := _) (v := ?_) rfl (by kernel_rfl) (by kernel_rfl) (by kernel_rfl) (fun _ _ _ h => h) (_root_.Or.inl ⟨by rfl, ?_⟩) (by assumption) ?_
            rotate_left
            · intro w hSw
              (try dsimp only at hSw)
              go_simp
              all_goals first | with_reducible rfl | (rw [if_neg (by omega)]; done) | (rw [if_neg (by simp; omega)]; done) | (rw [if_neg (by omega)]; with_reducible rfl) | (rw [if_neg (by simp; omega)]; with_reducible rfl)
            try simp only [List.getElem_toArray, List.getElem_cons_succ, List.getElem_cons_zero, Act.put, List.setIfInBounds_toArray, List.set_cons_zero, List.set_cons_succ]
            refine wpAnyH_ready (rs := [4]) (by kernel_rfl) (by simp) ?_
            refine AllReadyH.cons (o := _) rfl (fun K hK => ?_) AllReadyH.nil
            go_simp
            go_at_call 38
            refine (P2.out _).mono ?_
            rintro e u9 ⟨rfl, n9⟩
            have Nu9 := Lib.hid (((Nw.refl u0).draw 1).trans n9)
            clear n9 hHeld
            go_wp2_with fail
            refine hK.out _ _ ?_ (fun hHeld => ?_)
            · exact KeepS.out _ Nu9.out
            clear hK K
            try simp only [List.getElem_toArray, List.getElem_cons_succ, List.getElem_cons_zero, Act.put, List.setIfInBounds_toArray, List.set_cons_zero, List.set_cons_succ]
            refine wpAnyH_take (i := 5) (oi := _) (v := ?_) rfl (by kernel_rfl) (by kernel_rfl) (by kernel_rfl) (fun _ _ _ h => h) (_root_.Or.inl ⟨by rfl, ?_⟩) (by assumption) ?_
            rotate_left
            · intro w hSw
              (try dsimp only at hSw)
              go_simp
              all_goals first | with_reducible rfl | (rw [if_neg (by omega)]; done) | (rw [if_neg (by simp; omega)]; done) | (rw [if_neg (by omega)]; with_reducible rfl) | (rw [if_neg (by simp; omega)]; with_reducible rfl)
            try simp only [List.getElem_toArray, List.getElem_cons_succ, List.getElem_cons_zero, Act.put, List.setIfInBounds_toArray, List.set_cons_zero, List.set_cons_succ]
            refine wpAnyH_take (i := 6) (oi := _) (v := ?_) rfl (by kernel_rfl) (by kernel_rfl) (by kernel_rfl) (fun _ _ _ h => h) (_root_.Or.inl ⟨by rfl, ?_⟩) (by assumption) ?_
            rotate_left
            · intro w hSw
              (try dsimp only at hSw)
              go_simp
              all_goals first | with_reducible rfl | (rw [if_neg (by omega)]; done) | (rw [if_neg (by simp; omega)]; done) | (rw [if_neg (by omega)]; with_reducible rfl) | (rw [if_neg (by simp; omega)]; with_reducible rfl)
            try simp only [List.getElem_toArray, List.getElem_cons_succ, List.getElem_cons_zero, Act.put, List.setIfInBounds_toArray, List.set_cons_zero, List.set_cons_succ]
            refine wpAnyH_ready (rs := [9]) (by kernel_rfl) (by simp) ?_
            refine AllReadyH.cons (o := _) rfl (fun K hK => ?_) AllReadyH.nil
            go_simp
            go_at_call 39
            refine (P5.out _).mono ?_
            rintro e u10 ⟨rfl, n10⟩
            have Nu10 := Lib.hid (Nu9.out.trans n10)
            clear n10 hHeld
            go_wp2_with fail
            refine hK.out _ _ ?_ (fun hHeld => ?_)
            · exact KeepS.out _ Nu10.out
            clear hK K
            try simp only [List.getElem_toArray, List.getElem_cons_succ, List.getElem_cons_zero, Act.put, List.setIfInBounds_toArray, List.set_cons_zero, List.set_cons_succ]
            refine wpAnyH_take (i := 10) (oi := _) (v := ?_) rfl (by kernel_rfl) (by kernel_rfl) (by kernel_rfl) (fun _ _ _ h => h) (_root_.Or.inl ⟨by rfl, ?_⟩) (by assumption) ?_
            rotate_left
            · intro w hSw
              (try dsimp only at hSw)
              go_simp
              all_goals first | with_reducible rfl | (rw [if_neg (by omega)]; done) | (rw [if_neg (by simp; omega)]; done) | (rw [if_neg (by omega)]; with_reducible rfl) | (rw [if_neg (by simp; omega)]; with_reducible rfl)
            try simp only [List.getElem_toArray, List.getElem_cons_succ, List.getElem_cons_zero, Act.put, List.setIfInBounds_toArray, List.set_cons_zero, List.set_cons_succ]
            refine wpAnyH_take (i := 11) (oi := _) (v := ?_) rfl (by kernel_rfl) (by kernel_rfl) (by kernel_rfl) (fun _ _ _ h => h) (_root_.Or.inl ⟨by rfl, ?_⟩) (by assumption) ?_
            rotate_left
            · intro w hSw
              (try dsimp only at hSw)
              go_simp
              all_goals first | with_reducible rfl | (rw [if_neg (by omega)]; done) | (rw [if_neg (by simp; omega)]; done) | (rw [if_neg (by omega)]; with_reducible rfl) | (rw [if_neg (by simp; omega)]; with_reducible rfl)
            try simp only [List.getElem_toArray, List.getElem_cons_succ, List.getElem_cons_zero, Act.put, List.setIfInBounds_toArray, List.set_cons_zero, List.set_cons_succ]
            refine wpAnyH_done (by kernel_rfl) ?_ _
            clear hHeld
            go_wp2_with fail
            go_roundw
            case rel =>
              have X := fmE_next (n := ne) (wr := wr) (m := tAt ++ t1 ++ ([32, 100, 97, 109, 112, 32] ++ t2 ++ [32] ++ t5) ++ [10]) Qs.out Mk.out hlt2 hzl (by rw [Hev.out, Hk.out]) (by simp [tAt]; omega) (N6.out.trans Nu10.out)
              exact (congrArg (fun b : ByteArray => FmEI l es ne wo (.string b) (.int .i64 ((i : Int) + 1)) _) (show (⟨(z ++ (tAt ++ t1 ++ ([32, 100, 97, 109, 112, 32] ++ t2 ++ [32] ++ t5) ++ [10])).toArray⟩ : ByteArray) = _ from by apply ByteArray.ext; simp [tAt])).mp X
            case measure => simp only [intOf]; omega
          · rw [if_neg (by omega), if_neg (by omega)] at HkF
            have Hk := Lib.hid HkF
            clear HkF
            rw [hk3] at y1
            go_wp2_with fail
            refine (P2.out _).mono ?_
            rintro x7 v7 ⟨rfl, n7⟩
            have N7 := Lib.hid (N6.out.trans n7)
            clear n7
            go_wp2_with fail
            go_roundw
            case rel =>
              have X := fmE_next (n := ne) (wr := wr) (m := tAt ++ t1 ++ ([32, 115, 116, 111, 112, 32] ++ t2) ++ [10]) Qs.out Mk.out hlt2 hzl (by rw [Hev.out, Hk.out]) (by simp [tAt]; omega) N7.out
              exact (congrArg (fun b : ByteArray => FmEI l es ne wo (.string b) (.int .i64 ((i : Int) + 1)) _) (show (⟨(z ++ (tAt ++ t1 ++ ([32, 115, 116, 111, 112, 32] ++ t2) ++ [10])).toArray⟩ : ByteArray) = _ from by apply ByteArray.ext; simp [tAt])).mp X
            case measure => simp only [intOf]; omega
        · have hin : i = ne := by omega
          have Ae := Lib.hid (show z = l ++ evsF es from by have h := Qs.out; rwa [List.take_of_length_le (by rw [← Hn.out.2]; omega)] at h)
          go_wp2_with fail
          go_ret
          refine ⟨?_, N5.out.trans Nx.out⟩
          rw [Ae.out, Lb.out, Hhd.out]
          rfl
end Go.Proofs.YtiakcibeobbonaaGreat

/- A voice takes a step: stepVoice (FnShifted, FnCut).
   Conditions: those that each statement names. -/
namespace Go.Proofs.YtiakcibeobbonaaGreat
set_option linter.unusedSimpArgs false
set_option linter.unusedVariables false
open Go Go.RowKit

/-- samples that are seen from somewhere in a row on -/
def View (w : World) (base : Nat) (v : Value) (xs : List Nat) : Prop :=
  ∃ (g off cap : Nat) (cur : Array Value), v = .slice (some ⟨g, off, none⟩) xs.length cap ∧ xs.length ≤ cap ∧ cap ≤ maxLen ∧ base ≤ g ∧ w.heap[g]? = some (.cells cur 23 (0, 0)) ∧ ∀ (k : Nat) x, xs[k]? = some x → w.cell? ⟨g, off + k, none⟩ = some (.float .f32 x)
theorem View.base {w : World} {base b2 : Nat} {v : Value} {xs : List Nat} (h : View w base v xs) (hb : b2 ≤ base) : View w b2 v xs := by
  obtain ⟨g, off, cap, cur, h1, h2, h3, h4, h5, h6⟩ := h
  exact ⟨g, off, cap, cur, h1, h2, h3, Nat.le_trans hb h4, h5, h6⟩
theorem View.lt {w : World} {base : Nat} {v : Value} {xs : List Nat} (h : View w base v xs) : ∀ k, v.ownBlock = some k → base ≤ k ∧ k < w.heap.size := by
  obtain ⟨g, off, cap, cur, rfl, h2, h3, h4, h5, h6⟩ := h
  intro k hk
  cases hk
  exact ⟨h4, (Array.getElem?_eq_some_iff.1 h5).1⟩
theorem View.of {w w' : World} {base : Nat} {v : Value} {xs : List Nat} (h : View w base v xs) (hb : ∀ k, v.ownBlock = some k → w'.heap[k]? = w.heap[k]?) : View w' base v xs := by
  obtain ⟨g, off, cap, cur, rfl, h2, h3, h4, h5, h6⟩ := h
  have e := hb g rfl
  exact ⟨g, off, cap, cur, rfl, h2, h3, h4, e.trans h5, fun k x hx => (World.cell?_of_block (w := w) (a := ⟨g, off + k, none⟩) e).trans (h6 k x hx)⟩
theorem View.nw {w w' : World} {base : Nat} {v : Value} {xs : List Nat} (h : View w base v xs) (hk : Nw w w') : View w' base v xs :=
  h.of fun k e => hk.block k (h.lt k e).2 (by simp)
theorem set_block (w : World) (p : Addr) (u : Value) (k : Nat) (h : p.block ≠ k) : (w.setCell p u).heap[k]? = w.heap[k]? := by
  exact Below.heap_setCell w p u k (fun e => h e.symm)
theorem View.set {w : World} {base : Nat} {v : Value} {xs : List Nat} (h : View w base v xs) {p : Addr} (hp : p.block < base) (u : Value) : View (w.setCell p u) base v xs :=
  h.of fun k e => set_block w p u k (by have := (h.lt k e).1; omega)
theorem View.grown {w w' : World} {base b2 : Nat} {E : TypeId} {size n : Nat} {v u : Value} {xs : List Nat} {us : List Value} (h : View w base v xs) (hr : w.ownsRow b2 E size u n us) (hE : E ≠ 23) (hg : w.grownBy w' u.ownBlock) : View w' base v xs := by
  refine h.of fun k e => hg.block k (h.lt k e).2 fun e2 => ?_
  obtain ⟨g, off, cap, cur, rfl, h2, h3, h4, h5, h6⟩ := h
  cases e
  rcases hr.2 with ⟨rfl, _⟩ | ⟨g', cap', cur', rfl, q1, q2, q3⟩
  · cases e2
  · cases e2
    rw [h5] at q2
    cases q2
    exact hE rfl
/-- a row of its own is seen from its beginning on -/
theorem View.own {w : World} {base n : Nat} {v : Value} {xs : List Nat} (h : w.ownsRow base 23 1 v n (cellsS xs)) (hn : n = xs.length) (h1 : 1 ≤ n) : View w base v xs := by
  subst hn
  rcases h.2 with ⟨_, h0⟩ | ⟨g, cap, cur, rfl, q1, q2, q3, q4, q5⟩
  · omega
  · refine ⟨g, 0, cap, cur, rfl, q3, q4, q1, q2, fun k x hx => ?_⟩
    have hk := (List.getElem?_eq_some_iff.1 hx).1
    have c := h.cellAt k (by omega)
    rw [show (cellsS xs)[k]? = some (.float .f32 x) from by simp [cellsS, hx]] at c
    simpa using c
theorem sampleAt_view (xs : List Nat) (base : Nat) (v : Value) (w : World) (h : View w base v xs) (hl : xs.length ≤ 1048576) :
    Calls Tryz.prog 62 #[v, .int .i64 0] w fun e w' => e = .returned (.float .f32 (inputOf xs 0)) ∧ w = w' := by
  obtain ⟨g, off, cap, cur, rfl, h2, h3, h4, h5, h6⟩ := h
  have hg : g < w.heap.size := (Array.getElem?_eq_some_iff.1 h5).1
  unfold maxLen at h3
  clear h4 h5
  match xs, h2, h6, hl with
  | [], h2, h6, hl =>
    clear h6
    go_enter Tryz.func62, Tryz.ntmps62
    go_wp2
    go_ret
    exact ⟨rfl, rfl⟩
  | x :: l, h2, h6, hl =>
    have e1 := h6 0 x rfl
    clear h6
    rw [List.length_cons] at h2 hl ⊢
    generalize l.length = n at *
    rw [Nat.add_zero] at e1
    go_enter Tryz.func62, Tryz.ntmps62
    go_wp2
    go_ret
    exact ⟨rfl, rfl⟩

theorem gr_drew {w w' : World} {r : Option Nat} (h : w.drew.grownBy w' r) : w.grownBy w' r := ⟨h.os, h.tape, h.output, h.size, h.block⟩
theorem gr_cell {w w' : World} {q gs o : Nat} {v : Value} (h : w.grownBy w' (some gs)) (hq : q < w.heap.size) (hne : q ≠ gs) (hc : w.cell? ⟨q, o, none⟩ = some v) : w'.cell? ⟨q, o, none⟩ = some v :=
  h.cell hc (by simpa using hne)
theorem gr_frozen {w w' : World} {q gs o : Nat} {b : Bool} (h : w.grownBy w' (some gs)) (hq : q < w.heap.size) (hne : q ≠ gs) (hc : w.frozen? ⟨q, o, none⟩ = b) : w'.frozen? ⟨q, o, none⟩ = b :=
  (World.frozen?_of_block (w := w) (a := ⟨q, o, none⟩) (h.block q hq (by simpa using hne))).trans hc

def StepVP (b2 bs gs n q o : Nat) (vo : Option Nat) (y : Nat) (ss : List (Nat × Nat)) (xs : List Nat) (w : World) (e : Ending) (w' : World) : Prop :=
  e = .returned (.float .f32 y) ∧ ∃ (w1 : World) (vi : Value), Nw (w1.setCell ⟨q, o + 3, none⟩ vi) w' ∧ View w1 b2 vi xs ∧ vi.ownBlock = vo ∧ w1.ownsRow bs 91 1 (.slice (some ⟨gs, 0, none⟩) n n) n (cellsC ss) ∧ w.grownBy w1 (some gs)
set_option maxHeartbeats 3200000 in
set_option maxRecDepth 100000 in
theorem stepVoice_ok (ms : List M4) (ss : List (Nat × Nat)) (xs : List Nat) (n gs bs bm b2 q o : Nat) (vm vi : Value) (hms : ∀ m ∈ ms, m.ok) (hn : ms.length = n) (hss : ss.length = n) (hn16 : n ≤ 16) (hxl : xs.length ≤ 1048576) (w : World)
    (c1 : w.cell? ⟨q, o + 1, none⟩ = some vm) (c2 : w.cell? ⟨q, o + 2, none⟩ = some (.slice (some ⟨gs, 0, none⟩) n n)) (c3 : w.cell? ⟨q, o + 3, none⟩ = some vi) (cf : w.frozen? ⟨q, o + 3, none⟩ = false) (hq : q < w.heap.size) (hqs : q ≠ gs)
    (hm : w.ownsRow bm 93 2 vm n (cellsM ms)) (hs : w.ownsRow bs 91 1 (.slice (some ⟨gs, 0, none⟩) n n) n (cellsC ss)) (hv : View w b2 vi xs) (hne : vm.ownBlock ≠ some gs)
    (hok : ∀ (k : Nat) m s, ms[k]? = some m → ss[k]? = some s → StepOk m s (inputOf xs 0)) (hsum : SumOk (stepAll ms ss (inputOf xs 0))) :
    Calls Tryz.prog 35 #[.pointer (some ⟨q, o, none⟩)] w (StepVP b2 bs gs n q o vi.ownBlock (outS (stepAll ms ss (inputOf xs 0))) (stepAll ms ss (inputOf xs 0)) (xs.drop 1) w) := by
  have Hm := Lib.hid hm
  have Hs := Lib.hid hs
  have Hv := Lib.hid hv
  have Hok := Lib.hid hok
  have Hsum := Lib.hid hsum
  have Hms := Lib.hid hms
  have Hn := Lib.hid (And.intro hn hss)
  clear hm hs hv hok hsum hms hn hss
  go_enter Tryz.func35, Tryz.ntmps35
  go_upto_region 1 with fail
  refine wp_region_held_drew (S := fun w' => w'.cell? ⟨q, o + 1, none⟩ = some vm ∧ w'.cell? ⟨q, o + 2, none⟩ = some (.slice (some ⟨gs, 0, none⟩) n n) ∧ w'.cell? ⟨q, o + 3, none⟩ = some vi) (by kernel_rfl) ?_ (fun hHeld => ?_)
  · exact ⟨c1, c2, c3⟩
  refine wpAnyH_take (i := 0) (oi := _) (v := ?_) rfl (by kernel_rfl) (by kernel_rfl) (by kernel_rfl) (fun _ _ _ h => h) (_root_.Or.inl ⟨by rfl, ?_⟩) (by assumption) ?_
  rotate_left
  · intro w hSw
    (try dsimp only at hSw)
    go_simp
    all_goals with_reducible rfl
  try simp only [Act.put, List.setIfInBounds_toArray, List.set_cons_zero, List.set_cons_succ]
  refine wpAnyH_take (i := 1) (oi := _) (v := ?_) rfl (by kernel_rfl) (by kernel_rfl) (by kernel_rfl) (fun _ _ _ h => h) (_root_.Or.inl ⟨by rfl, ?_⟩) (by assumption) ?_
  rotate_left
  · intro w hSw
    (try dsimp only at hSw)
    go_simp
    all_goals with_reducible rfl
  try simp only [Act.put, List.setIfInBounds_toArray, List.set_cons_zero, List.set_cons_succ]
  refine wpAnyH_take (i := 2) (oi := _) (v := ?_) rfl (by kernel_rfl) (by kernel_rfl) (by kernel_rfl) (fun _ _ _ h => h) (_root_.Or.inl ⟨by rfl, ?_⟩) (by assumption) ?_
  rotate_left
  · intro w hSw
    (try dsimp only at hSw)
    go_simp
    all_goals with_reducible rfl
  try simp only [Act.put, List.setIfInBounds_toArray, List.set_cons_zero, List.set_cons_succ]
  refine wpAnyH_take (i := 3) (oi := _) (v := ?_) rfl (by kernel_rfl) (by kernel_rfl) (by kernel_rfl) (fun _ _ _ h => h) (_root_.Or.inl ⟨by rfl, ?_⟩) (by assumption) ?_
  rotate_left
  · intro w hSw
    (try dsimp only at hSw)
    go_simp
    all_goals with_reducible rfl
  try simp only [Act.put, List.setIfInBounds_toArray, List.set_cons_zero, List.set_cons_succ]
  refine wpAnyH_take (i := 4) (oi := _) (v := ?_) rfl (by kernel_rfl) (by kernel_rfl) (by kernel_rfl) (fun _ _ _ h => h) (_root_.Or.inl ⟨by rfl, ?_⟩) (by assumption) ?_
  rotate_left
  · intro w hSw
    (try dsimp only at hSw)
    go_simp
    all_goals with_reducible rfl
  try simp only [Act.put, List.setIfInBounds_toArray, List.set_cons_zero, List.set_cons_succ]
  refine wpAnyH_take (i := 5) (oi := _) (v := ?_) rfl (by kernel_rfl) (by kernel_rfl) (by kernel_rfl) (fun _ _ _ h => h) (_root_.Or.inl ⟨by rfl, ?_⟩) (by assumption) ?_
  rotate_left
  · intro w hSw
    (try dsimp only at hSw)
    go_simp
    all_goals with_reducible rfl
  try simp only [Act.put, List.setIfInBounds_toArray, List.set_cons_zero, List.set_cons_succ]
  refine wpAnyH_take (i := 6) (oi := _) (v := ?_) rfl (by kernel_rfl) (by kernel_rfl) (by kernel_rfl) (fun _ _ _ h => h) (_root_.Or.inl ⟨by rfl, ?_⟩) (by assumption) ?_
  rotate_left
  · intro w hSw
    (try dsimp only at hSw)
    go_simp
    all_goals with_reducible rfl
  try simp only [Act.put, List.setIfInBounds_toArray, List.set_cons_zero, List.set_cons_succ]
  refine wpAnyH_take (i := 7) (oi := _) (v := ?_) rfl (by kernel_rfl) (by kernel_rfl) (by kernel_rfl) (fun _ _ _ h => h) (_root_.Or.inl ⟨by rfl, ?_⟩) (by assumption) ?_
  rotate_left
  · intro w hSw
    (try dsimp only at hSw)
    go_simp
    all_goals with_reducible rfl
  try simp only [Act.put, List.setIfInBounds_toArray, List.set_cons_zero, List.set_cons_succ]
  refine wpAnyH_take (i := 8) (oi := _) (v := ?_) rfl (by kernel_rfl) (by kernel_rfl) (by kernel_rfl) (fun _ _ _ h => h) (_root_.Or.inl ⟨by rfl, ?_⟩) (by assumption) ?_
  rotate_left
  · intro w hSw
    (try dsimp only at hSw)
    go_simp
    all_goals with_reducible rfl
  try simp only [Act.put, List.setIfInBounds_toArray, List.set_cons_zero, List.set_cons_succ]
  refine wpAnyH_take (i := 9) (oi := _) (v := ?_) rfl (by kernel_rfl) (by kernel_rfl) (by kernel_rfl) (fun _ _ _ h => h) (_root_.Or.inl ⟨by rfl, ?_⟩) (by assumption) ?_
  rotate_left
  · intro w hSw
    (try dsimp only at hSw)
    go_simp
    all_goals with_reducible rfl
  try simp only [Act.put, List.setIfInBounds_toArray, List.set_cons_zero, List.set_cons_succ]
  refine wpAnyH_take (i := 10) (oi := _) (v := ?_) rfl (by kernel_rfl) (by kernel_rfl) (by kernel_rfl) (fun _ _ _ h => h) (_root_.Or.inl ⟨by rfl, ?_⟩) (by assumption) ?_
  rotate_left
  · intro w hSw
    (try dsimp only at hSw)
    go_simp
    all_goals with_reducible rfl
  try simp only [Act.put, List.setIfInBounds_toArray, List.set_cons_zero, List.set_cons_succ]
  refine wpAnyH_take (i := 11) (oi := _) (v := ?_) rfl (by kernel_rfl) (by kernel_rfl) (by kernel_rfl) (fun _ _ _ h => h) (_root_.Or.inl ⟨by rfl, ?_⟩) (by assumption) ?_
  rotate_left
  · intro w hSw
    (try dsimp only at hSw)
    go_simp
    all_goals with_reducible rfl
  try simp only [Act.put, List.setIfInBounds_toArray, List.set_cons_zero, List.set_cons_succ]
  refine wpAnyH_ready (rs := [12]) (by kernel_rfl) (by simp) ?_
  refine AllReadyH.cons (o := _) rfl (fun K hK => ?_) AllReadyH.nil
  go_simp
  go_at_call 62
  refine (sampleAt_view xs b2 vi _ (Hv.out.nw ((Nw.refl w).draw 1)) hxl).mono ?_
  rintro e w1 ⟨rfl, rfl⟩
  go_wp2_with fail
  refine hK.out _ _ ?_ (fun hHeld => ?_)
  · exact ⟨c1, c2, c3⟩
  clear hK K
  try simp only [Act.put, List.setIfInBounds_toArray, List.set_cons_zero, List.set_cons_succ]
  refine wpAnyH_ready (rs := [13]) (by kernel_rfl) (by simp) ?_
  refine AllReadyH.cons (o := _) rfl (fun K hK => ?_) AllReadyH.nil
  go_simp
  go_at_call 61
  refine (stepStates_ok ms Hms.out ss (inputOf xs 0) n gs bs bm vm Hn.out.1 Hn.out.2 hn16 _ (own_nw Hm.out ((Nw.refl w).draw 1)) (own_nw Hs.out ((Nw.refl w).draw 1)) hne Hok.out Hsum.out).mono ?_
  rintro e w1 ⟨rfl, own1, gr1⟩
  have Own := Lib.hid own1
  have Gr := Lib.hid (gr_drew gr1)
  have k1 := gr_cell Gr.out hq hqs c1
  have k2 := gr_cell Gr.out hq hqs c2
  have k3 := gr_cell Gr.out hq hqs c3
  have kf := gr_frozen Gr.out hq hqs cf
  clear own1 gr1 c1 c2 c3 cf hHeld
  go_wp2_with fail
  refine hK.out _ _ ?_ (fun hHeld => ?_)
  · exact ⟨k1, k2, k3⟩
  clear hK K
  try simp only [Act.put, List.setIfInBounds_toArray, List.set_cons_zero, List.set_cons_succ]
  refine wpAnyH_take (i := 14) (oi := _) (v := ?_) rfl (by kernel_rfl) (by kernel_rfl) (by kernel_rfl) (fun _ _ _ h => h) (_root_.Or.inl ⟨by rfl, ?_⟩) (by assumption) ?_
  rotate_left
  · intro w hSw
    (try dsimp only at hSw)
    go_simp
    all_goals with_reducible rfl
  try simp only [List.getElem_toArray, List.getElem_cons_succ, List.getElem_cons_zero, Act.put, List.setIfInBounds_toArray, List.set_cons_zero, List.set_cons_succ]
  refine wpAnyH_done (by kernel_rfl) ?_ _
  have V1 := Lib.hid (Hv.out.grown Hs.out (by decide) Gr.out)
  clear k1 k2 hHeld Hv Hsum Hok Hms
  generalize outS (stepAll ms ss (inputOf xs 0)) = y at *
  generalize stepAll ms ss (inputOf xs 0) = ss' at *
  obtain ⟨g, off, cap, cur, rfl, h2, h3, h4, h5, h6⟩ := V1.out
  have hq1 : q < w1.heap.size := Nat.lt_of_lt_of_le hq Gr.out.size
  have hg : g < w1.heap.size := (Array.getElem?_eq_some_iff.1 h5).1
  unfold maxLen at h3
  have Fin := Lib.hid (show ∀ vi', View w1 b2 vi' (xs.drop 1) → vi'.ownBlock = some g → StepVP b2 bs gs n q o (some g) y ss' (xs.drop 1) w (.returned (.float .f32 y)) (w1.setCell ⟨q, o + 3, none⟩ vi').drew from fun vi' hv' ho' => ⟨rfl, w1, vi', (Nw.refl _).draw 1, hv', ho', Own.out, Gr.out⟩)
  have e6 : ∀ (k : Nat) y, (xs.drop 1)[k]? = some y → w1.cell? ⟨g, off + 1 + k, none⟩ = some (.float .f32 y) := fun k y hk => by rw [show off + 1 + k = off + (k + 1) from by omega]; exact h6 (k + 1) y (by rw [List.getElem?_drop] at hk; rw [Nat.add_comm]; exact hk)
  have e7 : (xs.drop 1).length = xs.length - 1 := by simp
  clear Own Gr V1 h6
  generalize inputOf xs 0 = x0 at *
  generalize xs.drop 1 = tl at *
  generalize xs.length = xn at *
  by_cases hx0 : xn = 0
  · subst hx0
    have V2 := Lib.hid (Fin.out (.slice (some ⟨g, off, none⟩) 0 cap) ⟨g, off, cap, cur, by rw [e7], by rw [e7]; omega, by unfold maxLen; omega, h4, h5, fun k x hx => by rw [List.eq_nil_of_length_eq_zero e7] at hx; simp at hx⟩ rfl)
    clear Fin h5 h4 e6
    go_wp2_with fail
    go_region
    go_wp2_with fail
    go_ret
    exact V2.out
  · have hx1 : ¬ ((xn : Int) < 1) := by omega
    by_cases hc1 : cap = 1
    · obtain rfl : xn = 1 := by omega
      subst hc1
      have V2 := Lib.hid (Fin.out (.slice (some ⟨g, off, none⟩) 0 0) ⟨g, off, 0, cur, by rw [e7], by rw [e7]; omega, by unfold maxLen; omega, h4, h5, fun k x hx => by rw [List.eq_nil_of_length_eq_zero e7] at hx; simp at hx⟩ rfl)
      clear Fin h5 h4 e6
      go_wp2_with fail
      go_region
      go_wp2_with fail
      go_ret
      exact V2.out
    · have V2 := Lib.hid (Fin.out (.slice (some ⟨g, off + 1, none⟩) (xn - 1) (cap - 1)) ⟨g, off + 1, cap - 1, cur, by rw [e7], by rw [e7]; omega, by unfold maxLen; omega, h4, h5, e6⟩ rfl)
      clear Fin h5 h4 e6
      go_wp2_with fail
      go_region
      go_wp2_with fail
      go_ret
      exact V2.out
end Go.Proofs.YtiakcibeobbonaaGreat

/- The voices of a player in memory (FnShifted, FnCut).
   Conditions: those that each statement names. -/
namespace Go.Proofs.YtiakcibeobbonaaGreat
set_option linter.unusedSimpArgs false
set_option linter.unusedVariables false
open Go Go.RowKit

/-- where a voice lies: its modes, the block of its states, its input, its track -/
structure Loc where
  vm : Value
  g : Nat
  vi : Value
  tr : Int
def cellP (z : Prt × Loc) : List Value := [.int .i64 z.1.b, z.2.vm, .slice (some ⟨z.2.g, 0, none⟩) z.1.ms.length z.1.ms.length, z.2.vi, .int .i64 z.2.tr]
def cellsP : List (Prt × Loc) → List Value
  | [] => []
  | z :: l => cellP z ++ cellsP l
theorem cellsP_len : ∀ zs, (cellsP zs).length = zs.length * 5
  | [] => rfl
  | z :: l => by simp [cellsP, cellP, cellsP_len l]; omega
theorem cellsP_append : ∀ a b, cellsP (a ++ b) = cellsP a ++ cellsP b
  | [], b => rfl
  | z :: a, b => by simp [cellsP, cellsP_append a b]
theorem cellsP_get : ∀ (zs : List (Prt × Loc)) (k j : Nat) z, zs[k]? = some z → j < 5 → (cellsP zs)[k * 5 + j]? = (cellP z)[j]?
  | [], k, j, z, h, _ => by simp at h
  | y :: l, 0, j, z, h, hj => by
    simp at h
    subst h
    rw [Nat.zero_mul, Nat.zero_add, cellsP, List.getElem?_append_left (by simpa [cellP] using hj)]
  | y :: l, k + 1, j, z, h, hj => by
    rw [cellsP, List.getElem?_append_right (by simp [cellP]; omega), show (k + 1) * 5 + j - (cellP y).length = k * 5 + j from by simp [cellP]; omega]
    exact cellsP_get l k j z (by simpa using h) hj
theorem cellsP_set : ∀ (zs : List (Prt × Loc)) (k : Nat) z z', zs[k]? = some z → z'.1.b = z.1.b → z'.1.ms.length = z.1.ms.length → z'.2.vm = z.2.vm → z'.2.g = z.2.g → z'.2.tr = z.2.tr → (cellsP zs).set (k * 5 + 3) z'.2.vi = cellsP (zs.set k z')
  | [], k, z, z', h, _, _, _, _, _ => by simp at h
  | y :: l, 0, z, z', h, h1, h2, h3, h4, h5 => by
    simp at h
    subst h
    simp [cellsP, cellP, h1, h2, h3, h4, h5]
  | y :: l, k + 1, z, z', h, h1, h2, h3, h4, h5 => by
    rw [cellsP, List.set_append_right _ _ (by simp [cellP]; omega), show (k + 1) * 5 + 3 - (cellP y).length = k * 5 + 3 from by simp [cellP]; omega, cellsP_set l k z z' (by simpa using h) h1 h2 h3 h4 h5]
    rfl

/-- a voice's rows -/
structure PartIn (w : World) (base : Nat) (z : Prt × Loc) : Prop where
  ms : w.ownsRow base 93 2 z.2.vm z.1.ms.length (cellsM z.1.ms)
  st : w.ownsRow base 91 1 (.slice (some ⟨z.2.g, 0, none⟩) z.1.ms.length z.1.ms.length) z.1.ms.length (cellsC z.1.st)
  xs : View w base z.2.vi z.1.xs
theorem PartIn.base {w : World} {base b2 : Nat} {z : Prt × Loc} (h : PartIn w base z) (hb : b2 ≤ base) : PartIn w b2 z := ⟨own_base h.ms hb, own_base h.st hb, h.xs.base hb⟩
theorem PartIn.nw {w w' : World} {base : Nat} {z : Prt × Loc} (h : PartIn w base z) (hk : Nw w w') : PartIn w' base z := ⟨own_nw h.ms hk, own_nw h.st hk, h.xs.nw hk⟩
theorem PartIn.set {w : World} {base : Nat} {z : Prt × Loc} (h : PartIn w base z) {p : Addr} (hp : p.block < base) (u : Value) : PartIn (w.setCell p u) base z := ⟨own_set h.ms hp u, own_set h.st hp u, h.xs.set hp u⟩
/-- a row of parts grows: what the parts name stays -/
theorem PartIn.grown {w w' : World} {base b2 size n : Nat} {z : Prt × Loc} {u : Value} {us : List Value} (h : PartIn w base z) (hr : w.ownsRow b2 84 size u n us) (hg : w.grownBy w' u.ownBlock) : PartIn w' base z :=
  ⟨h.ms.kept hg (rows_apart h.ms hr (by decide)), h.st.kept hg (rows_apart h.st hr (by decide)), h.xs.grown hr (by decide) hg⟩
/-- two voices lie apart -/
def PApt (x y : Prt × Loc) : Prop := x.2.g ≠ y.2.g ∧ (x.2.vm.ownBlock = none ∨ x.2.vm.ownBlock ≠ y.2.vm.ownBlock)
/-- the parts of a player -/
structure PartsR (w : World) (base : Nat) (pv : Value) (zs : List (Prt × Loc)) : Prop where
  row : w.ownsRow base 84 5 pv zs.length (cellsP zs)
  ins : ∀ z ∈ zs, PartIn w base z
  apt : ∀ (i j : Nat) x y, i ≠ j → zs[i]? = some x → zs[j]? = some y → PApt x y
theorem PartsR.nil (w : World) (base : Nat) : PartsR w base (.slice none 0 0) [] := ⟨World.ownsRow_nil _ _ _ _, fun z h => by simp at h, fun i j x y _ h => by simp at h⟩
theorem PartsR.base {w : World} {base b2 : Nat} {pv : Value} {zs : List (Prt × Loc)} (h : PartsR w base pv zs) (hb : b2 ≤ base) : PartsR w b2 pv zs := ⟨own_base h.row hb, fun z hz => (h.ins z hz).base hb, h.apt⟩
theorem PartsR.nw {w w' : World} {base : Nat} {pv : Value} {zs : List (Prt × Loc)} (h : PartsR w base pv zs) (hk : Nw w w') : PartsR w' base pv zs := ⟨own_nw h.row hk, fun z hz => (h.ins z hz).nw hk, h.apt⟩
theorem PartsR.set {w : World} {base : Nat} {pv : Value} {zs : List (Prt × Loc)} (h : PartsR w base pv zs) {p : Addr} (hp : p.block < base) (u : Value) : PartsR (w.setCell p u) base pv zs := ⟨own_set h.row hp u, fun z hz => (h.ins z hz).set hp u, h.apt⟩

/-- a voice has taken its step -/
theorem PartsR.step {w w1 w' : World} {base g0 cap k : Nat} {vi : Value} {zs : List (Prt × Loc)} {p : Prt} {l : Loc} (h : PartsR w base (.slice (some ⟨g0, 0, none⟩) zs.length cap) zs) (hk : zs[k]? = some (p, l))
    (hg : w.grownBy w1 (some l.g)) (hs : w1.ownsRow base 91 1 (.slice (some ⟨l.g, 0, none⟩) p.ms.length p.ms.length) p.ms.length (cellsC p.next.st)) (hv : View w1 base vi p.next.xs) (hn : Nw (w1.setCell ⟨g0, k * 5 + 3, none⟩ vi) w') :
    PartsR w' base (.slice (some ⟨g0, 0, none⟩) zs.length cap) (zs.set k (p.next, { l with vi := vi })) := by
  have hz := h.ins _ (List.mem_of_getElem? hk)
  have hkl := (List.getElem?_eq_some_iff.1 hk).1
  have r1 : w1.ownsRow base 84 5 (.slice (some ⟨g0, 0, none⟩) zs.length cap) zs.length (cellsP zs) := h.row.kept hg (rows_apart h.row hz.st (by decide))
  obtain ⟨s1, s2⟩ := r1.stored (k * 5 + 3) vi
  have e := cellsP_set zs k (p, l) (p.next, { l with vi := vi }) hk rfl rfl rfl rfl rfl
  refine ⟨by rw [List.length_set, ← e]; exact own_nw s1 hn, fun z hzm => ?_, fun i j x y hij hx hy => ?_⟩
  · obtain ⟨j, hj⟩ := List.getElem?_of_mem hzm
    by_cases hjk : j = k
    · subst hjk
      rw [List.getElem?_set_self hkl] at hj
      cases hj
      have m1 : w1.ownsRow base 93 2 l.vm p.ms.length (cellsM p.ms) := hz.ms.kept hg (rows_apart hz.ms hz.st (by decide))
      exact ⟨own_nw (m1.kept s2 (rows_apart m1 r1 (by decide))) hn, own_nw (hs.kept s2 (rows_apart hs r1 (by decide))) hn, (hv.grown r1 (by decide) s2).nw hn⟩
    · rw [List.getElem?_set_ne (by omega)] at hj
      have hy := h.ins z (List.mem_of_getElem? hj)
      have ha := h.apt k j (p, l) z (by omega) hk hj
      have m1 := hy.ms.kept hg (rows_apart hy.ms hz.st (by decide))
      have m2 := hy.st.kept hg (.inr (by show some z.2.g ≠ some l.g; intro e; exact ha.1 (by injection e with e; exact e.symm)))
      have m3 := hy.xs.grown hz.st (by decide) hg
      exact ⟨own_nw (m1.kept s2 (rows_apart m1 r1 (by decide))) hn, own_nw (m2.kept s2 (rows_apart m2 r1 (by decide))) hn, (m3.grown r1 (by decide) s2).nw hn⟩
  · have ap : ∀ (i : Nat) x, (zs.set k (p.next, { l with vi := vi }))[i]? = some x → ∃ x0, zs[i]? = some x0 ∧ x0.2.g = x.2.g ∧ x0.2.vm = x.2.vm := by
      intro i x hx
      by_cases hik : i = k
      · subst hik
        rw [List.getElem?_set_self hkl] at hx
        cases hx
        exact ⟨_, hk, rfl, rfl⟩
      · rw [List.getElem?_set_ne (by omega)] at hx
        exact ⟨x, hx, rfl, rfl⟩
    obtain ⟨x0, a1, a2, a3⟩ := ap i x hx
    obtain ⟨y0, b1, b2, b3⟩ := ap j y hy
    have := h.apt i j x0 y0 hij a1 b1
    unfold PApt at this ⊢
    rw [← a2, ← a3, ← b2, ← b3]
    exact this
/-- a voice behind the others -/
theorem PartsR.snoc {w w1 : World} {base b2 : Nat} {pv pv' : Value} {zs : List (Prt × Loc)} {z : Prt × Loc} (h : PartsR w base pv zs) (hz : PartIn w b2 z) (hb : base ≤ b2)
    (hlt : ∀ x ∈ zs, x.2.g < b2 ∧ ∀ q, x.2.vm.ownBlock = some q → q < b2)
    (hn : w1.ownsRow base 84 5 pv' (zs.length + 1) (cellsP (zs ++ [z]))) (hg : w.grownBy w1 pv.ownBlock) : PartsR w1 base pv' (zs ++ [z]) := by
  refine ⟨by rw [List.length_append]; exact hn, fun y hy => ?_, fun i j x y hij hx hy => ?_⟩
  · rw [List.mem_append, List.mem_singleton] at hy
    rcases hy with hy | rfl
    · exact (h.ins y hy).grown h.row hg
    · exact (hz.base hb).grown h.row hg
  · have h1 : ∀ x ∈ zs, PApt x z ∧ PApt z x := by
      intro x hx
      obtain ⟨a1, a2⟩ := hlt x hx
      have b1 := (hz.st.lt z.2.g rfl).1
      have b2' := fun q hq => (hz.ms.lt q hq).1
      refine ⟨⟨by omega, ?_⟩, ⟨by omega, ?_⟩⟩
      · cases hq : x.2.vm.ownBlock with
        | none => exact .inl rfl
        | some q => exact .inr fun e => by have := a2 q hq; have := b2' q e.symm; omega
      · cases hq : z.2.vm.ownBlock with
        | none => exact .inl rfl
        | some q => exact .inr fun e => by have := a2 q e.symm; have := b2' q hq; omega
    have hxm := List.mem_append.1 (List.mem_of_getElem? hx)
    have il := (List.getElem?_eq_some_iff.1 hx).1
    have jl := (List.getElem?_eq_some_iff.1 hy).1
    simp at il jl
    by_cases hi : i < zs.length
    · rw [List.getElem?_append_left hi] at hx
      by_cases hj : j < zs.length
      · rw [List.getElem?_append_left hj] at hy
        exact h.apt i j x y hij hx hy
      · obtain rfl : j = zs.length := by omega
        rw [List.getElem?_append_right (Nat.le_refl _), Nat.sub_self] at hy
        simp at hy
        subst hy
        exact (h1 x (List.mem_of_getElem? hx)).1
    · obtain rfl : i = zs.length := by omega
      rw [List.getElem?_append_right (Nat.le_refl _), Nat.sub_self] at hx
      simp at hx
      subst hx
      rw [List.getElem?_append_left (by omega)] at hy
      exact (h1 y (List.mem_of_getElem? hy)).2
end Go.Proofs.YtiakcibeobbonaaGreat

/- A row's cells are written one behind another; the first element of a row of parts goes (FnShifted, FnCut).
   Conditions: those that each statement names. -/
namespace Go.Proofs.YtiakcibeobbonaaGreat
set_option linter.unusedSimpArgs false
set_option linter.unusedVariables false
open Go Go.RowKit

def writeL : List Value → Nat → List Value → List Value
  | xs, _, [] => xs
  | xs, o, v :: r => writeL (xs.set o v) (o + 1) r
theorem writeL_len : ∀ (vs xs : List Value) (o : Nat), (writeL xs o vs).length = xs.length
  | [], _, _ => rfl
  | v :: r, xs, o => by rw [writeL, writeL_len r]; simp
theorem writeL_eq : ∀ (vs xs : List Value) (o : Nat), o + vs.length ≤ xs.length → writeL xs o vs = xs.take o ++ vs ++ xs.drop (o + vs.length)
  | [], xs, o, _ => by simp [writeL]
  | v :: r, xs, o, h => by
    rw [List.length_cons] at h
    rw [writeL, writeL_eq r (xs.set o v) (o + 1) (by simp; omega), List.take_set, List.drop_set_of_lt (by omega), List.length_cons, show o + 1 + r.length = o + (r.length + 1) from by omega]
    have e : (xs.take (o + 1)).set o v = xs.take o ++ [v] := by
      rw [List.take_add_one, List.getElem?_eq_getElem (by omega), List.set_append_right _ _ (by simp; omega)]
      simp [Nat.min_eq_left (show o ≤ xs.length by omega)]
    rw [e]
    simp
theorem own_setCells {w : World} {base g size n cap : Nat} {E : TypeId} : ∀ (vs xs : List Value) (o : Nat) (w : World), w.ownsRow base E size (.slice (some ⟨g, 0, none⟩) n cap) n xs →
    (w.setCells g o vs).ownsRow base E size (.slice (some ⟨g, 0, none⟩) n cap) n (writeL xs o vs) ∧ w.grownBy (w.setCells g o vs) (some g)
  | [], xs, o, w, h => ⟨h, World.grownBy.refl _ _⟩
  | v :: r, xs, o, w, h => by
    obtain ⟨h1, h2⟩ := h.stored o v
    obtain ⟨h3, h4⟩ := own_setCells (w := w) r (xs.set o v) (o + 1) (w.setCell ⟨g, o, none⟩ v) h1
    exact ⟨h3, h2.trans' h4⟩
/-- the first elements of a row -/
theorem own_cut {w : World} {base g size n m cap : Nat} {E : TypeId} {xs : List Value} (h : w.ownsRow base E size (.slice (some ⟨g, 0, none⟩) n cap) n xs) (hm : m ≤ n) : w.ownsRow base E size (.slice (some ⟨g, 0, none⟩) m cap) m (xs.take (m * size)) := by
  have hl := h.1
  refine ⟨?_, ?_⟩
  · rw [List.length_take, hl, Nat.min_eq_left (Nat.mul_le_mul_right _ hm)]
  · rcases h.2 with ⟨h1, _⟩ | ⟨g', cap', cur, h1, hb, hg, hc, hcm, hs, ht⟩
    · cases h1
    · cases h1
      refine .inr ⟨g, cap, cur, rfl, hb, hg, by omega, hcm, hs, ?_⟩
      rw [← ht, List.take_take, Nat.min_eq_left (Nat.mul_le_mul_right _ hm)]
theorem run_clear_cells {P : Program} (w : World) (t e ty : TypeId) (z : Value) (ht : P.underlying t = some (.slice e)) (hv : ∀ w, (zeroValue e).run P w = .ok z w) (b o n c : Nat) (hn : 0 < n) (zs : List Value) (hz : (Builtin.zeroCells z.cells n).toList = zs) (h1 : ∀ u ∈ zs, u.oneCell' = true)
    (hc : ∀ j, j < zs.length → (w.cell? ⟨b, o + j, none⟩).isSome = true) (hf : ∀ j, j < zs.length → w.frozen? ⟨b, o + j, none⟩ = false) :
    (Builtin.clear_ #[t] ty #[.slice (some ⟨b, o, none⟩) n c]).run P w = .ok (.tuple #[]) (w.setCells b o zs) := by
  have hst := run_storeCells_cells (P := P) b o zs 0 w (by simpa using hc) (by simpa using hf) h1
  simp only [Nat.add_zero] at hst
  obtain ⟨m, rfl⟩ : ∃ m, n = m + 1 := ⟨n - 1, by omega⟩
  simp [Builtin.clear_, run_underlying ht, hv, hz, hst]
def zP : List Value := [.int .i64 0, .slice none 0 0, .slice none 0 0, .slice none 0 0, .int .i64 0]
theorem zero_part (w : World) : (zeroValue 84).run Tryz.prog w = .ok (.agg #[.int .i64 0, .slice none 0 0, .slice none 0 0, .slice none 0 0, .int .i64 0]) w := Tryz.zeroValue84 w
theorem info_part : (Tryz.prog.info? 84).map (fun i => i.size) = some 5 := by kernel_rfl
theorem there_row {w : World} {base g size n cap : Nat} {E : TypeId} {xs : List Value} (h : w.ownsRow base E size (.slice (some ⟨g, 0, none⟩) n cap) n xs) (j : Nat) (hj : j < n * size) : (w.cell? ⟨g, j, none⟩).isSome = true ∧ w.frozen? ⟨g, j, none⟩ = false := by
  refine ⟨?_, h.frozenAt j⟩
  rw [h.cellAt j hj, List.getElem?_eq_getElem (by rw [h.1]; exact hj)]
  rfl

set_option maxHeartbeats 6400000 in
set_option maxRecDepth 1000000 in
theorem delete_first (base g n cap : Nat) (xs : List Value) (hx1 : ∀ u ∈ xs, u.oneCell' = true) (hn : 1 ≤ n) (hcap : cap ≤ 9223372036854775807) (hnc : n ≤ cap) (w : World) (h : w.ownsRow base 84 5 (.slice (some ⟨g, 0, none⟩) n cap) n xs) :
    Calls Tryz.prog 90 #[.slice (some ⟨g, 0, none⟩) n cap, .int .i64 0, .int .i64 1] w fun e w' =>
      e = .returned (.slice (some ⟨g, 0, none⟩) (n - 1) cap) ∧ w'.ownsRow base 84 5 (.slice (some ⟨g, 0, none⟩) (n - 1) cap) (n - 1) (xs.drop 5) ∧ w.grownBy w' (some g) := by
  obtain ⟨i0, hi0, hz1⟩ : ∃ i0, Tryz.prog.info? 84 = some i0 ∧ i0.size = 5 := by
    have e := info_part
    cases hi : Tryz.prog.info? 84 with
    | none => rw [hi] at e; cases e
    | some i => rw [hi] at e; exact ⟨i, rfl, by simpa using e⟩
  have hxl := h.1
  obtain ⟨news, hnews⟩ : ∃ news, news = xs.drop 5 := ⟨_, rfl⟩
  have hlen : news.length = (n - 1) * 5 := by rw [hnews, List.length_drop, hxl]; omega
  have hD : w.drew.ownsRow base 84 5 (.slice (some ⟨g, 0, none⟩) n cap) n xs := h
  obtain ⟨A, hA, hsrc⟩ : ∃ A : Addr, (if cap = 1 then some (⟨g, 0, none⟩ : Addr) else some ⟨g, 5, none⟩) = some A ∧ (∀ (t : Nat) u, news[t]? = some u → w.drew.cell? (A.add t) = some u) := by
    by_cases hc : cap = 1
    · refine ⟨⟨g, 0, none⟩, by simp [hc], fun t u hu => ?_⟩
      have h0 : news.length = 0 := by rw [hlen]; omega
      rw [List.length_eq_zero_iff.1 h0] at hu
      simp at hu
    · refine ⟨⟨g, 5, none⟩, by simp [hc], fun t u hu => ?_⟩
      have ht := (List.getElem?_eq_some_iff.1 hu).1
      rw [hlen] at ht
      rw [Addr.add_lit, hD.cellAt (5 + t) (by omega), ← hu, hnews, List.getElem?_drop]
  have Hsrc := Lib.hid hsrc
  have s1 := Lib.hid hlen
  have s2 := Lib.hid (show ∀ u ∈ news, u.oneCell' = true from fun u hu => hx1 u (by rw [hnews] at hu; exact List.mem_of_mem_drop hu))
  have s3 := Lib.hid (show ∀ t, t < news.length → (w.drew.cell? ⟨g, 0 + 0 * 5 + t, none⟩).isSome = true ∧ w.drew.frozen? ⟨g, 0 + 0 * 5 + t, none⟩ = false from fun t ht => by
    simp only [Nat.zero_mul, Nat.zero_add]; exact there_row hD t (by rw [hlen] at ht; omega))
  obtain ⟨W1, hW1⟩ : ∃ W1, W1 = w.drew.setCells g (0 + 0 * 5) news := ⟨_, rfl⟩
  obtain ⟨o1, g1⟩ := own_setCells (w := w) news xs (0 + 0 * 5) w.drew hD
  rw [← hW1] at o1 g1
  have O1 := Lib.hid o1
  have G1 := Lib.hid (show w.grownBy W1 (some g) from ⟨g1.os, g1.tape, g1.output, g1.size, g1.block⟩)
  obtain ⟨o2, g2⟩ := own_setCells (w := w) zP (writeL xs (0 + 0 * 5) news) ((n - 1) * 5) W1 o1
  have hfin : ((writeL (writeL xs (0 + 0 * 5) news) ((n - 1) * 5) zP).take ((n - 1) * 5)) = xs.drop 5 := by
    rw [writeL_eq zP _ _ (by rw [writeL_len, hxl]; show (n - 1) * 5 + 5 ≤ n * 5; omega), writeL_eq news xs _ (by omega)]
    simp only [Nat.zero_mul, Nat.add_zero, List.take_zero, List.nil_append]
    rw [List.append_assoc, List.take_append_of_le_length (by simp; omega), List.take_take, Nat.min_self, ← hlen, List.take_append_of_le_length (Nat.le_refl _), List.take_length, hnews]
  have Fin := Lib.hid (show (W1.setCells g ((n - 1) * 5) zP).ownsRow base 84 5 (.slice (some ⟨g, 0, none⟩) (n - 1) cap) (n - 1) (xs.drop 5) ∧ w.grownBy (W1.setCells g ((n - 1) * 5) zP) (some g) from
    ⟨by have h := own_cut o2 (show n - 1 ≤ n by omega); rw [hfin] at h; exact h, G1.out.trans' g2⟩)
  have hcl : ∀ ty, (Builtin.clear_ #[78] ty #[.slice (some ⟨g, (n - 1) * 5, none⟩) (n - (n - 1)) (cap - (n - 1))]).run Tryz.prog W1 = .ok (.tuple #[]) (W1.setCells g ((n - 1) * 5) zP) :=
    fun ty => by rw [show n - (n - 1) = 1 from by omega]; exact run_clear_cells W1 78 84 ty _ Tryz.underlying78 zero_part g ((n - 1) * 5) 1 _ (by decide) zP (by kernel_rfl) (by decide) (fun j hj => (there_row O1.out ((n - 1) * 5 + j) (by have : zP.length = 5 := rfl; omega)).1) (fun j hj => (there_row O1.out ((n - 1) * 5 + j) (by have : zP.length = 5 := rfl; omega)).2)
  have hn' : (1 : Int) ≤ (n : Int) := by omega
  have hW := Lib.hid hW1
  clear hW1 o1 g1 o2 g2 hfin hsrc hD h hnews hlen hx1 hxl
  go_enter Tryz.func90, Tryz.ntmps90
  go_wp2_with fail
  go_region_law (refine step_append_room rfl (.tmp 22) (.tmp 25) 78 rfl 84 i0 5 Tryz.underlying78 hi0 hz1 g 0 0 cap (by simp [Act.eval, Act.put]) A (n - 1) (cap - 1) news (by simp [Act.eval, Act.put]) s1.out Hsrc.out s2.out (by omega) s3.out ?_; rw [← hW.out])
  go_wp2_with fail
  go_ret
  exact ⟨rfl, Fin.out⟩
end Go.Proofs.YtiakcibeobbonaaGreat

/- slices.IndexFunc and DeleteFunc over a row of parts (FnShifted, FnCut).
   Conditions: those that each statement names. -/
namespace Go.Proofs.YtiakcibeobbonaaGreat
set_option linter.unusedSimpArgs false
set_option linter.unusedVariables false
open Go Go.RowKit

theorem part_at {w : World} {base g n cap k : Nat} {zs : List (Prt × Loc)} {z : Prt × Loc} (h : w.ownsRow base 84 5 (.slice (some ⟨g, 0, none⟩) n cap) n (cellsP zs)) (hn : n = zs.length) (hk : zs[k]? = some z) :
    w.cell? ⟨g, k * 5, none⟩ = some (.int .i64 z.1.b) ∧ w.cell? ⟨g, k * 5 + 1, none⟩ = some z.2.vm ∧ w.cell? ⟨g, k * 5 + 2, none⟩ = some (.slice (some ⟨z.2.g, 0, none⟩) z.1.ms.length z.1.ms.length) ∧
    w.cell? ⟨g, k * 5 + 3, none⟩ = some z.2.vi ∧ w.cell? ⟨g, k * 5 + 4, none⟩ = some (.int .i64 z.2.tr) := by
  have hkl := (List.getElem?_eq_some_iff.1 hk).1
  have c : ∀ j v, (cellP z)[j]? = some v → j < 5 → w.cell? ⟨g, k * 5 + j, none⟩ = some v := by
    intro j v hv hj
    rw [h.cellAt (k * 5 + j) (by omega), cellsP_get zs k j z hk hj, hv]
  exact ⟨c 0 _ rfl (by decide), c 1 _ rfl (by decide), c 2 _ rfl (by decide), c 3 _ rfl (by decide), c 4 _ rfl (by decide)⟩
set_option maxRecDepth 100000 in
/-- does an event's body stop a voice? -/
theorem takeB_ok (b : Int) (eb : Nat) (eb2 : Int) (w : World) (c2 : w.cell? ⟨eb, 2, none⟩ = some (.int .i64 eb2)) (b1 b2 b3 b4 : Value) :
    Calls Tryz.prog 94 #[.agg #[.int .i64 b, b1, b2, b3, b4], .pointer (some ⟨eb, 0, none⟩)] w fun e w' => e = .returned (.bool (decide (b = eb2))) ∧ Nw w w' := by
  go_enter Tryz.func94, Tryz.ntmps94
  have hlt := World.block_lt_of_cell? w _ c2
  simp only at hlt
  have N := Lib.hid ((Nw.refl w).alloc (.cells #[.int .i64 b, b1, b2, b3, b4] 84 (0, 0)))
  go_wp2_with fail
  go_ret
  exact ⟨rfl, N.out⟩
def idxB (b : Int) : List (Prt × Loc) → Nat
  | [] => 0
  | z :: l => if z.1.b = b then 0 else idxB b l + 1
theorem idxB_le (b : Int) : ∀ zs, idxB b zs ≤ zs.length
  | [] => Nat.le_refl _
  | z :: l => by have := idxB_le b l; unfold idxB; split <;> simp; omega
theorem idxB_lt (b : Int) : ∀ (zs : List (Prt × Loc)) (k : Nat) z, k < idxB b zs → zs[k]? = some z → z.1.b ≠ b
  | [], k, z, h, _ => by simp [idxB] at h
  | y :: l, 0, z, h, hz => by
    simp at hz
    subst hz
    unfold idxB at h
    split at h
    · omega
    · assumption
  | y :: l, k + 1, z, h, hz => by
    unfold idxB at h
    split at h
    · omega
    · exact idxB_lt b l k z (by omega) (by simpa using hz)
theorem idxB_at (b : Int) : ∀ (zs : List (Prt × Loc)) (k : Nat) z, zs[k]? = some z → z.1.b = b → (∀ (j : Nat) y, j < k → zs[j]? = some y → y.1.b ≠ b) → idxB b zs = k
  | [], k, z, hz, _, _ => by simp at hz
  | y :: l, 0, z, hz, hb, _ => by
    simp at hz
    subst hz
    unfold idxB
    rw [if_pos hb]
  | y :: l, k + 1, z, hz, hb, h => by
    unfold idxB
    rw [if_neg (h 0 y (by omega) rfl), idxB_at b l k z (by simpa using hz) hb fun j x hj hx => h (j + 1) x (by omega) (by simpa using hx)]
theorem idxB_none (b : Int) : ∀ (zs : List (Prt × Loc)), (∀ z ∈ zs, z.1.b ≠ b) → idxB b zs = zs.length
  | [], _ => rfl
  | y :: l, h => by unfold idxB; rw [if_neg (h y List.mem_cons_self), idxB_none b l fun z hz => h z (List.mem_cons_of_mem _ hz)]; rfl

def idxV (b : Int) (zs : List (Prt × Loc)) : Int := if idxB b zs = zs.length then -1 else (idxB b zs : Int)

set_option maxHeartbeats 6400000 in
set_option maxRecDepth 100000 in
theorem indexFunc_ok (base g n cap eb : Nat) (b : Int) (zs : List (Prt × Loc)) (hn : n = zs.length) (hcap : cap ≤ 9223372036854775807) (hnc : n ≤ cap) (w : World) (h : w.ownsRow base 84 5 (.slice (some ⟨g, 0, none⟩) n cap) n (cellsP zs))
    (c2 : w.cell? ⟨eb, 2, none⟩ = some (.int .i64 b)) :
    Calls Tryz.prog 110 #[.slice (some ⟨g, 0, none⟩) n cap, .func (.func 94) #[] #[.pointer (some ⟨eb, 0, none⟩)]] w fun e w' =>
      e = .returned (.int .i64 (idxV b zs)) ∧ Nw w w' := by
  have H := Lib.hid h
  have C2 := Lib.hid c2
  have Hn := Lib.hid hn
  have hg : g < w.heap.size := (h.lt g rfl).2
  clear h c2 hn
  go_enter Tryz.func110, Tryz.ntmps110
  go_wp2_with fail
  go_loopw [8] (fun i wr => ∃ k : Nat, k ≤ n ∧ i = .int .i64 (k : Int) ∧ (∀ (j : Nat) y, j < k → zs[j]? = some y → y.1.b ≠ b) ∧ Nw w wr) (fun i _ => n - (intOf i).toNat)
  case atStart => exact ⟨0, by omega, rfl, fun j y hj => by omega, Nw.refl _⟩
  case round =>
    obtain ⟨k, hk, rfl, hall, hnw⟩ := hrel
    have Hall := Lib.hid hall
    have N := Lib.hid hnw
    clear hall hnw
    by_cases hlt : k < n
    · obtain ⟨z, hz⟩ : ∃ z, zs[k]? = some z := ⟨zs[k]'(by rw [← Hn.out]; exact hlt), List.getElem?_eq_getElem _⟩
      have hgr : g < wr.heap.size := Nat.lt_of_lt_of_le hg N.out.size
      obtain ⟨e0, e1, e2, e3, e4⟩ := part_at (own_nw H.out N.out) Hn.out hz
      have C := Lib.hid ((World.cell?_of_block (w := w) (a := ⟨eb, 2, none⟩) (N.out.block eb (World.block_lt_of_cell? w _ C2.out) (by simp))).trans C2.out)
      have Hz := Lib.hid hz
      clear hz
      go_wp2_with fail
      refine (takeB_ok z.1.b eb b _ C.out _ _ _ _).mono ?_
      rintro e w5 ⟨rfl, n5⟩
      have N5 := Lib.hid (N.out.trans n5)
      clear n5 e0 e1 e2 e3 e4
      by_cases hb : z.1.b = b
      · have V := Lib.hid (show idxV b zs = (k : Int) from by
          have e := idxB_at b zs k z Hz.out hb Hall.out
          unfold idxV
          rw [e, if_neg (by rw [← Hn.out]; omega)])
        rw [decide_eq_true hb]
        go_wp2_with fail
        go_ret
        exact ⟨by rw [V.out]; rfl, N5.out⟩
      · rw [decide_eq_false hb]
        go_wp2_with fail
        go_roundw
        case rel =>
          refine ⟨k + 1, by omega, by rw [show ((k + 1 : Nat) : Int) = (k : Int) + 1 from by omega], fun j y hj hy => ?_, N5.out⟩
          by_cases hjk : j = k
          · subst hjk
            rw [Hz.out] at hy
            cases hy
            exact hb
          · exact Hall.out j y (by omega) hy
        case measure => simp only [intOf]; omega
    · have V := Lib.hid (show idxV b zs = -1 from by
        have e := idxB_none b zs fun z hz => by
          obtain ⟨j, hj⟩ := List.getElem?_of_mem hz
          exact Hall.out j z (by have := (List.getElem?_eq_some_iff.1 hj).1; rw [← Hn.out] at this; omega) hj
        unfold idxV
        rw [if_pos e])
      go_wp2_with fail
      go_ret
      exact ⟨by rw [V.out]; rfl, N.out⟩
end Go.Proofs.YtiakcibeobbonaaGreat

/- slices.DeleteFunc over a row of parts (FnShifted, FnCut).
   Conditions: those that each statement names. -/
namespace Go.Proofs.YtiakcibeobbonaaGreat
set_option linter.unusedSimpArgs false
set_option linter.unusedVariables false
open Go Go.RowKit

theorem cellsP_take : ∀ (zs : List (Prt × Loc)) (i : Nat), (cellsP zs).take (i * 5) = cellsP (zs.take i)
  | [], i => by simp [cellsP]
  | z :: l, 0 => by simp [cellsP]
  | z :: l, i + 1 => by
    rw [cellsP, List.take_succ_cons, cellsP, List.take_append, List.take_of_length_le (by simp [cellP]; omega), show (i + 1) * 5 - (cellP z).length = i * 5 from by simp [cellP]; omega, cellsP_take l i]
theorem cellsP_put : ∀ (zs : List (Prt × Loc)) (i : Nat) (z : Prt × Loc), i < zs.length → writeL (cellsP zs) (i * 5) (cellP z) = cellsP (zs.set i z)
  | [], i, z, h => by simp at h
  | y :: l, 0, z, _ => by simp [cellsP, cellP, writeL]
  | y :: l, i + 1, z, h => by
    have ih := cellsP_put l i z (by simpa using h)
    have hl := cellsP_len l
    simp only [List.length_cons] at h
    have hc : (cellP z).length = 5 := rfl
    rw [writeL_eq _ _ _ (by rw [cellsP_len, List.length_cons, hc]; omega)]
    rw [writeL_eq _ _ _ (by rw [hl, hc]; omega)] at ih
    rw [List.set_cons_succ, cellsP, cellsP, ← ih]
    have e5 : (cellP y).length = 5 := rfl
    rw [List.take_append, List.drop_append, List.take_of_length_le (by rw [e5]; omega), List.drop_of_length_le (by rw [e5]; omega), e5, hc, show (i + 1) * 5 - 5 = i * 5 from by omega, show (i + 1) * 5 + 5 - 5 = i * 5 + 5 from by omega]
    simp
theorem cellP_one (z : Prt × Loc) (h1 : z.2.vm.oneCell' = true) (h2 : z.2.vi.oneCell' = true) : ∀ u ∈ cellP z, u.oneCell' = true := by
  intro u hu
  simp only [cellP, List.mem_cons, List.not_mem_nil, or_false] at hu
  rcases hu with rfl | rfl | rfl | rfl | rfl
  · rfl
  · exact h1
  · rfl
  · exact h2
  · rfl
/-- a store of a whole part -/
theorem put_part {w : World} {base g n cap i : Nat} {zs : List (Prt × Loc)} (h : w.ownsRow base 84 5 (.slice (some ⟨g, 0, none⟩) n cap) n (cellsP zs)) (hi : i < zs.length) (z : Prt × Loc) :
    let w' := ((((w.setCell ⟨g, i * 5, none⟩ (.int .i64 z.1.b)).setCell ⟨g, i * 5 + 1, none⟩ z.2.vm).setCell ⟨g, i * 5 + 2, none⟩ (.slice (some ⟨z.2.g, 0, none⟩) z.1.ms.length z.1.ms.length)).setCell ⟨g, i * 5 + 3, none⟩ z.2.vi).setCell ⟨g, i * 5 + 4, none⟩ (.int .i64 z.2.tr)
    w'.ownsRow base 84 5 (.slice (some ⟨g, 0, none⟩) n cap) n (cellsP (zs.set i z)) ∧ w.grownBy w' (some g) := by
  have k := own_setCells (w := w) (cellP z) (cellsP zs) (i * 5) w h
  rw [cellsP_put zs i z hi] at k
  exact k
theorem zero_cells (n : Nat) : (Builtin.zeroCells (Value.agg #[.int .i64 0, .slice none 0 0, .slice none 0 0, .slice none 0 0, .int .i64 0]).cells n).toList.length = n * 5 ∧ ∀ u ∈ (Builtin.zeroCells (Value.agg #[.int .i64 0, .slice none 0 0, .slice none 0 0, .slice none 0 0, .int .i64 0]).cells n).toList, u.oneCell' = true := by
  refine ⟨by simp [Builtin.zeroCells, Value.cells], fun u hu => ?_⟩
  simp only [Builtin.zeroCells, Value.cells, Array.toList_map, List.mem_map] at hu
  obtain ⟨i, -, rfl⟩ := hu
  have h5 : i % 5 < 5 := Nat.mod_lt _ (by decide)
  show ((#[Value.int .i64 0, .slice none 0 0, .slice none 0 0, .slice none 0 0, .int .i64 0] : Array Value)[i % 5]!).oneCell' = true
  generalize i % 5 = j at h5
  match j, h5 with
  | 0, _ => rfl
  | 1, _ => rfl
  | 2, _ => rfl
  | 3, _ => rfl
  | 4, _ => rfl
theorem HasC.newB (w : World) (cs : Array Value) (T : TypeId) : HasC (w.alloc (.cells cs T (0, 0))) w.heap.size cs.toList := by
  have hb : (w.alloc (.cells cs T (0, 0))).heap[w.heap.size]? = some (.cells cs T (0, 0)) := heap_alloc_new w _
  refine ⟨by simp, fun k v hk => ⟨?_, frozen_of_row _ _ k cs T hb⟩⟩
  rw [cell_of_row _ _ k cs T (0, 0) hb]
  simpa using hk
theorem five_at {w : World} {b : Nat} {v0 v1 v2 v3 v4 : Value} (h : HasC w b [v0, v1, v2, v3, v4]) :
    (w.cell? ⟨b, 0, none⟩ = some v0 ∧ w.frozen? ⟨b, 0, none⟩ = false) ∧ (w.cell? ⟨b, 1, none⟩ = some v1 ∧ w.frozen? ⟨b, 1, none⟩ = false) ∧ (w.cell? ⟨b, 2, none⟩ = some v2 ∧ w.frozen? ⟨b, 2, none⟩ = false) ∧
    (w.cell? ⟨b, 3, none⟩ = some v3 ∧ w.frozen? ⟨b, 3, none⟩ = false) ∧ (w.cell? ⟨b, 4, none⟩ = some v4 ∧ w.frozen? ⟨b, 4, none⟩ = false) :=
  ⟨h.2 0 _ rfl, h.2 1 _ rfl, h.2 2 _ rfl, h.2 3 _ rfl, h.2 4 _ rfl⟩
def keepB (b : Int) (zs : List (Prt × Loc)) : List (Prt × Loc) := zs.filter fun z => z.1.b != b
theorem keepB_take (b : Int) (zs : List (Prt × Loc)) (k : Nat) (z : Prt × Loc) (h : zs[k]? = some z) : keepB b (zs.take (k + 1)) = keepB b (zs.take k) ++ (if z.1.b = b then [] else [z]) := by
  unfold keepB
  rw [List.take_add_one, h, List.filter_append]
  congr 1
  by_cases e : z.1.b = b
  · simp [e]
  · simp [e]
theorem keepB_first (b : Int) : ∀ zs : List (Prt × Loc), keepB b (zs.take (idxB b zs)) = zs.take (idxB b zs) := by
  intro zs
  unfold keepB
  rw [List.filter_eq_self]
  intro z hz
  obtain ⟨k, hk⟩ := List.getElem?_of_mem hz
  have hkl := (List.getElem?_eq_some_iff.1 hk).1
  rw [List.length_take] at hkl
  rw [List.getElem?_take_of_lt (by omega)] at hk
  simpa using idxB_lt b zs k z (by omega) hk
theorem idxB_hit (b : Int) : ∀ (zs : List (Prt × Loc)) (k : Nat) z, k = idxB b zs → zs[k]? = some z → z.1.b = b
  | [], k, z, _, hz => by simp at hz
  | y :: l, k, z, h, hz => by
    unfold idxB at h
    split at h
    · subst h
      simp at hz
      subst hz
      assumption
    · subst h
      exact idxB_hit b l _ z rfl (by simpa using hz)

set_option maxHeartbeats 6400000 in
set_option maxRecDepth 100000 in
theorem deleteFunc_ok (base g n cap eb : Nat) (b : Int) (zs : List (Prt × Loc)) (hn : n = zs.length) (hcap : cap ≤ 9223372036854775807) (hnc : n ≤ cap) (w : World) (h : w.ownsRow base 84 5 (.slice (some ⟨g, 0, none⟩) n cap) n (cellsP zs))
    (c2 : w.cell? ⟨eb, 2, none⟩ = some (.int .i64 b)) (hne : eb ≠ g) (hsh : ∀ z ∈ zs, (∃ a n c, z.2.vm = .slice a n c) ∧ ∃ a n c, z.2.vi = .slice a n c) :
    Calls Tryz.prog 93 #[.slice (some ⟨g, 0, none⟩) n cap, .func (.func 94) #[] #[.pointer (some ⟨eb, 0, none⟩)]] w fun e w' =>
      ∃ m, m = (keepB b zs).length ∧ e = .returned (.slice (some ⟨g, 0, none⟩) m cap) ∧ w'.ownsRow base 84 5 (.slice (some ⟨g, 0, none⟩) m cap) m (cellsP (keepB b zs)) ∧ w.grownBy w' (some g) := by
  have H := Lib.hid h
  have C2 := Lib.hid c2
  have Hn := Lib.hid hn
  have Sh := Lib.hid hsh
  clear hsh
  have hg : g < w.heap.size := (h.lt g rfl).2
  clear h c2 hn
  go_enter Tryz.func93, Tryz.ntmps93
  go_wp2_with fail
  refine (indexFunc_ok base g n cap eb b zs Hn.out hcap hnc w H.out C2.out).mono ?_
  rintro e w1 ⟨rfl, n1⟩
  have N1 := Lib.hid n1
  clear n1
  by_cases h0 : idxB b zs = zs.length
  · have hk : keepB b zs = zs := by have e := keepB_first b zs; rwa [h0, List.take_length] at e
    have V : idxV b zs = -1 := by unfold idxV; rw [if_pos h0]
    have Fin := Lib.hid (show ∃ m, m = (keepB b zs).length ∧ Ending.returned (.slice (some ⟨g, 0, none⟩) n cap) = .returned (.slice (some ⟨g, 0, none⟩) m cap) ∧ w1.ownsRow base 84 5 (.slice (some ⟨g, 0, none⟩) m cap) m (cellsP (keepB b zs)) ∧ w.grownBy w1 (some g) from
      ⟨n, by rw [hk, Hn.out], rfl, by rw [hk]; exact own_nw H.out N1.out, N1.out.os, N1.out.tape, N1.out.output, N1.out.size, fun k a _ => N1.out.block k a (by simp)⟩)
    rw [V]
    clear hk
    go_wp2_with fail
    go_ret
    exact Fin.out
  · obtain ⟨i0, hi0⟩ : ∃ i0, i0 = idxB b zs := ⟨_, rfl⟩
    have V : idxV b zs = (i0 : Int) := by unfold idxV; rw [if_neg h0, hi0]
    have hlt0 : i0 < n := by have := idxB_le b zs; have := Hn.out; omega
    have hx : ((i0 : Int) == -1) = false := by rw [beq_eq_false_iff_ne]; omega
    have hk0 := keepB_first b zs
    rw [← hi0] at hk0
    have hb0 : ∃ z, zs[i0]? = some z := ⟨zs[i0]'(by rw [← Hn.out]; exact hlt0), List.getElem?_eq_getElem _⟩
    have K1 := Lib.hid (show keepB b (zs.take (i0 + 1)) = zs.take i0 from by
      obtain ⟨z, hz⟩ := hb0
      rw [keepB_take b zs i0 z hz, hk0, if_pos (idxB_hit b zs i0 z hi0 hz), List.append_nil])
    have G1 := Lib.hid (show w.grownBy w1 (some g) from ⟨N1.out.os, N1.out.tape, N1.out.output, N1.out.size, fun k a _ => N1.out.block k a (by simp)⟩)
    rw [V]
    clear V h0 hi0 hk0 hb0
    go_wp2_with fail
    go_loopw [5, 6, 7] (fun i j _ wr => ∃ (k m : Nat) (zs' : List (Prt × Loc)), m < k ∧ k ≤ n ∧ i = .int .i64 (m : Int) ∧ j = .int .i64 (k : Int) ∧ zs'.length = n ∧ zs'.take m = keepB b (zs.take k) ∧ zs'.drop k = zs.drop k ∧ wr.ownsRow base 84 5 (.slice (some ⟨g, 0, none⟩) n cap) n (cellsP zs') ∧ w.grownBy wr (some g)) (fun _ j _ _ => n - (intOf j).toNat)
    case atStart => exact ⟨i0 + 1, i0, zs, by omega, by omega, rfl, by rw [show ((i0 + 1 : Nat) : Int) = (i0 : Int) + 1 from by omega], Hn.out.symm, K1.out.symm, rfl, own_nw H.out N1.out, G1.out⟩
    case round =>
      obtain ⟨k, m, zs', hmk, hkn, rfl, rfl, hl', htake, hdrop, hown, hgr⟩ := hrel
      have Tk := Lib.hid htake
      have Dr := Lib.hid hdrop
      have Ow := Lib.hid hown
      have Gr := Lib.hid hgr
      have Hl := Lib.hid hl'
      clear htake hdrop hown hgr hl'
      have hgr : g < wr.heap.size := Nat.lt_of_lt_of_le hg Gr.out.size
      by_cases hlt : k < n
      · obtain ⟨z, hz⟩ : ∃ z, zs[k]? = some z := ⟨zs[k]'(by rw [← Hn.out]; exact hlt), List.getElem?_eq_getElem _⟩
        have hz' : zs'[k]? = some z := by
          have e := congrArg (fun l => l[0]?) Dr.out
          simp only [List.getElem?_drop, Nat.add_zero] at e
          rw [e, hz]
        have Kt := Lib.hid (keepB_take b zs k z hz)
        obtain ⟨⟨va, vn, vc, hvm⟩, ia, xn, ic, hvi⟩ := Sh.out z (List.mem_of_getElem? hz)
        have Hz := Lib.hid hz
        obtain ⟨e0, e1, e2, e3, e4⟩ := part_at Ow.out Hl.out.symm hz'
        rw [hvm] at e1
        rw [hvi] at e3
        have Nb := Lib.hid ((Nw.refl wr).alloc (.cells #[.int .i64 z.1.b, .slice va vn vc, .slice (some ⟨z.2.g, 0, none⟩) z.1.ms.length z.1.ms.length, .slice ia xn ic, .int .i64 z.2.tr] 84 (0, 0)))
        have Bx := Lib.hid (HasC.newB wr #[.int .i64 z.1.b, .slice va vn vc, .slice (some ⟨z.2.g, 0, none⟩) z.1.ms.length z.1.ms.length, .slice ia xn ic, .int .i64 z.2.tr] 84)
        have Cw := Lib.hid (Gr.out.cell C2.out (by simpa using hne))
        have Cb := Lib.hid ((World.cell?_of_block (w := wr) (a := ⟨eb, 2, none⟩) (Nb.out.block eb (World.block_lt_of_cell? wr _ Cw.out) (by simp))).trans Cw.out)
        clear hz hz'
        go_wp2_with fail
        refine (takeB_ok z.1.b eb b _ Cb.out _ _ _ _).mono ?_
        rintro e w5 ⟨rfl, n5⟩
        have N5 := Lib.hid (Nb.out.trans n5)
        have B5 := Lib.hid (Bx.out.nw n5)
        clear n5 e0 e1 e2 e3 e4
        have Ow5 := Lib.hid (own_nw Ow.out N5.out)
        have Gr5 := Lib.hid (Gr.out.trans' (show wr.grownBy w5 (some g) from ⟨N5.out.os, N5.out.tape, N5.out.output, N5.out.size, fun k a _ => N5.out.block k a (by simp)⟩))
        by_cases hb : z.1.b = b
        · rw [decide_eq_true hb]
          go_wp2_with fail
          go_roundw
          case rel => exact ⟨k + 1, m, zs', by omega, by omega, rfl, by rw [show ((k + 1 : Nat) : Int) = (k : Int) + 1 from by omega], Hl.out, by rw [Kt.out, if_pos hb, List.append_nil]; exact Tk.out, by rw [← List.drop_drop, ← List.drop_drop, Dr.out], Ow5.out, Gr5.out⟩
          case measure => simp only [intOf]; omega
        · rw [decide_eq_false hb]
          have pp := put_part Ow5.out (show m < zs'.length by rw [Hl.out]; omega) z
          rw [hvm, hvi] at pp
          have Pp := Lib.hid pp
          clear pp
          obtain ⟨⟨f0, -⟩, ⟨f1, -⟩, ⟨f2, -⟩, ⟨f3, -⟩, f4, -⟩ := five_at B5.out
          have t0 := there_row Ow5.out (m * 5) (by omega)
          have t1 := there_row Ow5.out (m * 5 + 1) (by omega)
          have t2 := there_row Ow5.out (m * 5 + 2) (by omega)
          have t3 := there_row Ow5.out (m * 5 + 3) (by omega)
          have t4 := there_row Ow5.out (m * 5 + 4) (by omega)
          obtain ⟨y0, q0⟩ := Option.isSome_iff_exists.1 t0.1
          have r0 := t0.2
          obtain ⟨y1, q1⟩ := Option.isSome_iff_exists.1 t1.1
          have r1 := t1.2
          obtain ⟨y2, q2⟩ := Option.isSome_iff_exists.1 t2.1
          have r2 := t2.2
          obtain ⟨y3, q3⟩ := Option.isSome_iff_exists.1 t3.1
          have r3 := t3.2
          obtain ⟨y4, q4⟩ := Option.isSome_iff_exists.1 t4.1
          have r4 := t4.2
          clear t0 t1 t2 t3 t4
          have hg5 : g < w5.heap.size := Nat.lt_of_lt_of_le hgr N5.out.size
          go_wp2_with fail
          go_roundw
          case rel =>
            refine ⟨k + 1, m + 1, zs'.set m z, by omega, by omega, by rw [show ((m + 1 : Nat) : Int) = (m : Int) + 1 from by omega], by rw [show ((k + 1 : Nat) : Int) = (k : Int) + 1 from by omega], by rw [List.length_set, Hl.out], ?_, ?_, Pp.out.1, Gr5.out.trans' Pp.out.2⟩
            · rw [Kt.out, if_neg hb, ← Tk.out, List.take_add_one, List.getElem?_set_self (by rw [Hl.out]; omega), List.take_set_of_le (Nat.le_refl _)]
              rfl
            · rw [List.drop_set_of_lt (by omega), ← List.drop_drop, ← List.drop_drop, Dr.out]
          case measure => simp only [intOf]; omega
      · obtain rfl : k = n := by omega
        have hkb : zs'.take m = keepB b zs := by rw [Tk.out, Hn.out, List.take_length]
        have hml : m = (keepB b zs).length := by rw [← hkb, List.length_take, Hl.out]; omega
        obtain ⟨zz, hzz⟩ : ∃ zz, zz = (Builtin.zeroCells (Value.agg #[.int .i64 0, .slice none 0 0, .slice none 0 0, .slice none 0 0, .int .i64 0]).cells (k - m)).toList := ⟨_, rfl⟩
        have zc := zero_cells (k - m)
        rw [← hzz] at zc
        obtain ⟨o2, g2⟩ := own_setCells (w := w) zz (cellsP zs') (m * 5) wr Ow.out
        have hfin : ((writeL (cellsP zs') (m * 5) zz).take (m * 5)) = cellsP (keepB b zs) := by
          rw [writeL_eq zz _ _ (by rw [cellsP_len, Hl.out, zc.1]; omega), List.append_assoc, List.take_append_of_le_length (by simp [cellsP_len, Hl.out]; omega), List.take_take, Nat.min_self, cellsP_take, hkb]
        have Fin := Lib.hid (show ∃ m', m' = (keepB b zs).length ∧ Ending.returned (.slice (some ⟨g, 0, none⟩) m cap) = .returned (.slice (some ⟨g, 0, none⟩) m' cap) ∧ (wr.setCells g (m * 5) zz).ownsRow base 84 5 (.slice (some ⟨g, 0, none⟩) m' cap) m' (cellsP (keepB b zs)) ∧ w.grownBy (wr.setCells g (m * 5) zz) (some g) from
          ⟨m, hml, rfl, by have h := own_cut o2 (show m ≤ k by omega); rw [hfin] at h; exact h, Gr.out.trans' g2⟩)
        have hcl : ∀ ty, (Builtin.clear_ #[78] ty #[.slice (some ⟨g, m * 5, none⟩) (k - m) (cap - m)]).run Tryz.prog wr = .ok (.tuple #[]) (wr.setCells g (m * 5) zz) :=
          fun ty => run_clear_cells wr 78 84 ty _ Tryz.underlying78 zero_part g (m * 5) (k - m) _ (by omega) zz hzz.symm zc.2 (fun j hj => (there_row Ow.out (m * 5 + j) (by rw [zc.1] at hj; omega)).1) (fun j hj => (there_row Ow.out (m * 5 + j) (by rw [zc.1] at hj; omega)).2)
        have hmk' : (m : Int) ≤ (k : Int) := by omega
        clear hfin o2 g2 zc hzz hkb hml
        go_wp2_with fail
        go_ret
        exact Fin.out
end Go.Proofs.YtiakcibeobbonaaGreat

/- A player begins: newPlayer (FnShifted, FnCut).
   Conditions: those that each statement names. -/
namespace Go.Proofs.YtiakcibeobbonaaGreat
set_option linter.unusedSimpArgs false
set_option linter.unusedVariables false
open Go Go.RowKit

theorem HasC.newA (w : World) (cs : Array Value) (T : TypeId) : HasC (w.alloc (.cells cs T (0, 0))) w.heap.size cs.toList := by
  have hb : (w.alloc (.cells cs T (0, 0))).heap[w.heap.size]? = some (.cells cs T (0, 0)) := heap_alloc_new w _
  refine ⟨by simp, fun k v hk => ⟨?_, frozen_of_row _ _ k cs T hb⟩⟩
  rw [cell_of_row _ _ k cs T (0, 0) hb]
  simpa using hk
/-- a box that is a player -/
def PlX (w : World) (b : Nat) : Prop := ∃ cs f, w.heap[b]? = some (.cells cs 80 f)
theorem PlX.new (w : World) (cs : Array Value) : PlX (w.alloc (.cells cs 80 (0, 0))) w.heap.size := ⟨cs, (0, 0), by show (w.heap.push _)[w.heap.size]? = _; simp⟩
theorem PlX.of {w w' : World} {b : Nat} (h : PlX w b) (hb : w'.heap[b]? = w.heap[b]?) : PlX w' b := by
  obtain ⟨cs, f, e⟩ := h
  exact ⟨cs, f, by rw [hb, e]⟩
theorem PlX.lt {w : World} {b : Nat} (h : PlX w b) : b < w.heap.size := by
  obtain ⟨cs, f, e⟩ := h
  exact (Array.getElem?_eq_some_iff.1 e).1
theorem PlX.nw {w w' : World} {b : Nat} (h : PlX w b) (k : Nw w w') : PlX w' b := h.of (k.block b h.lt (by simp))
theorem PlX.set {w : World} {b : Nat} (h : PlX w b) (c o : Nat) (u : Value) : PlX (w.setCell ⟨c, o, none⟩ u) b := by
  by_cases e : c = b
  · subst e
    obtain ⟨cs, f, e⟩ := h
    refine ⟨cs.setIfInBounds o u, f, ?_⟩
    simp [World.setCell, Array.getElem?_modify, e]
  · exact h.of (Below.heap_setCell _ _ _ _ (fun h => e h.symm))
theorem own_plx {w : World} {base : Nat} {E : TypeId} {size n c : Nat} {v : Value} {xs : List Value} (h : w.ownsRow base E size v n xs) (hB : PlX w c) (hE : E ≠ 80) : v.ownBlock = none ∨ v.ownBlock ≠ some c := by
  obtain ⟨cs, f, e⟩ := hB
  rcases h.2 with ⟨rfl, _⟩ | ⟨g, cap, cur, rfl, hb, hg, _⟩
  · exact .inl rfl
  · right
    intro e2
    simp [Value.ownBlock] at e2
    subst e2
    rw [hg] at e
    injection e with e
    injection e with e1 e2 e3
    exact hE e2
theorem PlX.grown {w w' : World} {base : Nat} {E : TypeId} {size n b : Nat} {v : Value} {xs : List Value} (h : PlX w b) (ho : w.ownsRow base E size v n xs) (hE : E ≠ 80) (hg : w.grownBy w' v.ownBlock) : PlX w' b :=
  h.of (hg.block b h.lt (fun e => by rcases own_plx ho h hE with h2 | h2; rw [h2] at e; cases e; exact h2 e.symm))
theorem own_setp {w : World} {base : Nat} {E : TypeId} {size n c : Nat} {v : Value} {xs : List Value} (h : w.ownsRow base E size v n xs) (hB : PlX w c) (hE : E ≠ 80) (o : Nat) (u : Value) : (w.setCell ⟨c, o, none⟩ u).ownsRow base E size v n xs :=
  h.kept ((Kp.refl c w).set o u) (own_plx h hB hE)

/-- a player's box -/
def plC (L V C R : Nat) (sv ev eo : Value) (now done begun : Int) (pv : Value) (env : Nat) : List Value :=
  [.int .i64 (L : Int), .int .i64 (V : Int), .float .f32 C, .float .f32 R, sv, ev, eo, .int .i64 now, .int .i64 done, .int .i64 begun, pv, .float .f32 env]
def NewPlP (L V C R : Nat) (es : List Ev6) (sv ev : Value) (w : World) (e : Ending) (w' : World) : Prop :=
  ∃ (q : Nat) (eo : Value), e = .returned (.pointer (some ⟨q, 0, none⟩)) ∧ w.heap.size ≤ q ∧ q < w'.heap.size ∧ PlX w' q ∧ HasC w' q (plC L V C R sv ev eo 0 0 0 (.slice none 0 0) 0) ∧ w'.ownsRow w.heap.size 68 6 eo (ordE es).length (cellsE (ordE es)) ∧ Nw w w'
set_option maxHeartbeats 6400000 in
set_option maxRecDepth 100000 in
theorem newPlayer_ok (base L V C R : Nat) (bs : List (List M4)) (es : List Ev6) (sv ev : Value) (w : World) (h : ScoV w base L V C R bs es sv ev) :
    Calls Tryz.prog 32 #[.agg #[.int .i64 (L : Int), .int .i64 (V : Int), .float .f32 C, .float .f32 R, sv, ev]] w (NewPlP L V C R es sv ev w) := by
  obtain ⟨⟨sa, sc, rfl⟩, ea, ec, rfl⟩ := h.shape
  have X := Lib.hid (HasC.new w 27 (.int .i64 (L : Int)) (.int .i64 (V : Int)) (.float .f32 C) (.float .f32 R) (.slice sa bs.length sc) (.slice ea es.length ec))
  have N := Lib.hid ((Nw.refl w).alloc (.cells #[.int .i64 (L : Int), .int .i64 (V : Int), .float .f32 C, .float .f32 R, .slice sa bs.length sc, .slice ea es.length ec] 27 (0, 0)))
  have H := Lib.hid (h.nw N.out)
  clear h
  have KeepS := Lib.hid (show ∀ W, Nw (w.alloc (.cells #[.int .i64 (L : Int), .int .i64 (V : Int), .float .f32 C, .float .f32 R, .slice sa bs.length sc, .slice ea es.length ec] 27 (0, 0))) W → W.cell? ⟨w.heap.size, 0, none⟩ = some (.int .i64 (L : Int)) ∧ W.cell? ⟨w.heap.size, 1, none⟩ = some (.int .i64 (V : Int)) ∧ W.cell? ⟨w.heap.size, 2, none⟩ = some (.float .f32 C) ∧ W.cell? ⟨w.heap.size, 3, none⟩ = some (.float .f32 R) ∧ W.cell? ⟨w.heap.size, 4, none⟩ = some (.slice sa bs.length sc) ∧ W.cell? ⟨w.heap.size, 5, none⟩ = some (.slice ea es.length ec) from fun W hW => by
    obtain ⟨⟨e0, -⟩, ⟨e1, -⟩, ⟨e2, -⟩, ⟨e3, -⟩, ⟨e4, -⟩, e5, -⟩ := six_at (X.out.nw hW)
    exact ⟨e0, e1, e2, e3, e4, e5⟩)
  go_enter Tryz.func32, Tryz.ntmps32
  go_upto_region 1 with fail
  refine wp_region_held_drew (S := fun w' => w'.cell? ⟨w.heap.size, 0, none⟩ = some (.int .i64 (L : Int)) ∧ w'.cell? ⟨w.heap.size, 1, none⟩ = some (.int .i64 (V : Int)) ∧ w'.cell? ⟨w.heap.size, 2, none⟩ = some (.float .f32 C) ∧ w'.cell? ⟨w.heap.size, 3, none⟩ = some (.float .f32 R) ∧ w'.cell? ⟨w.heap.size, 4, none⟩ = some (.slice sa bs.length sc) ∧ w'.cell? ⟨w.heap.size, 5, none⟩ = some (.slice ea es.length ec)) (by kernel_rfl) ?_ (fun hHeld => ?_)
  · exact KeepS.out _ ((Nw.refl _).draw 1)
  refine wpAnyH_take (i := 0) (oi := _) (v := ?_) rfl (by kernel_rfl) (by kernel_rfl) (by kernel_rfl) (fun _ _ _ h => h) (_root_.Or.inl ⟨by rfl, ?_⟩) (by assumption) ?_
  rotate_left
  · intro w hSw
    (try dsimp only at hSw)
    go_simp
    all_goals with_reducible rfl
  try simp only [Act.put, List.setIfInBounds_toArray, List.set_cons_zero, List.set_cons_succ]
  refine wpAnyH_take (i := 1) (oi := _) (v := ?_) rfl (by kernel_rfl) (by kernel_rfl) (by kernel_rfl) (fun _ _ _ h => h) (_root_.Or.inl ⟨by rfl, ?_⟩) (by assumption) ?_
  rotate_left
  · intro w hSw
    (try dsimp only at hSw)
    go_simp
    all_goals with_reducible rfl
  try simp only [Act.put, List.setIfInBounds_toArray, List.set_cons_zero, List.set_cons_succ]
  refine wpAnyH_ready (rs := [2]) (by kernel_rfl) (by simp) ?_
  refine AllReadyH.cons (o := _) rfl (fun K hK => ?_) AllReadyH.nil
  go_simp
  go_at_call 55
  refine (orderEvents_ok base L V C R bs es _ _ _ (H.out.nw ((Nw.refl _).draw 1))).mono ?_
  rintro e w1 ⟨eo, rfl, oe, d⟩
  obtain ⟨oa, oc, rfl⟩ := own_shape' oe
  have N1 := Lib.hid (show Nw _ w1 from ((Nw.refl _).draw 1).trans d)
  have OE := Lib.hid (own_base oe (show w.heap.size ≤ _ from by simp))
  clear d oe hHeld
  go_wp2_with fail
  refine hK.out _ _ ?_ (fun hHeld => ?_)
  · exact KeepS.out _ N1.out
  clear hK K
  try simp only [List.getElem_toArray, List.getElem_cons_succ, List.getElem_cons_zero, Act.put, List.setIfInBounds_toArray, List.set_cons_zero, List.set_cons_succ]
  refine wpAnyH_take (i := 3) (oi := _) (v := ?_) rfl (by kernel_rfl) (by kernel_rfl) (by kernel_rfl) (fun _ _ _ h => h) (_root_.Or.inl ⟨by rfl, ?_⟩) (by assumption) ?_
  rotate_left
  · intro w hSw
    (try dsimp only at hSw)
    go_simp
    all_goals with_reducible rfl
  try simp only [Act.put, List.setIfInBounds_toArray, List.set_cons_zero, List.set_cons_succ]
  refine wpAnyH_ready (rs := [4]) (by kernel_rfl) (by simp) ?_
  refine AllReadyH.cons (o := _) rfl (fun K hK => ?_) AllReadyH.nil
  go_simp
  refine hK.out _ _ ?_ (fun hHeld => ?_)
  · exact KeepS.out _ (N1.out.alloc _)
  clear hK K
  try simp only [List.getElem_toArray, List.getElem_cons_succ, List.getElem_cons_zero, Act.put, List.setIfInBounds_toArray, List.set_cons_zero, List.set_cons_succ]
  refine wpAnyH_take (i := 5) (oi := _) (v := ?_) rfl (by kernel_rfl) (by kernel_rfl) (by kernel_rfl) (fun _ _ _ h => h) (_root_.Or.inl ⟨by rfl, ?_⟩) (by assumption) ?_
  rotate_left
  · intro w hSw
    (try dsimp only at hSw)
    go_simp
    all_goals with_reducible rfl
  try simp only [List.getElem_toArray, List.getElem_cons_succ, List.getElem_cons_zero, Act.put, List.setIfInBounds_toArray, List.set_cons_zero, List.set_cons_succ]
  refine wpAnyH_done (by kernel_rfl) ?_ _
  clear hHeld
  have F1 := Lib.hid (HasC.newA w1 #[.int .i64 (L : Int), .int .i64 (V : Int), .float .f32 C, .float .f32 R, .slice sa bs.length sc, .slice ea es.length ec, .slice oa (ordE es).length oc, .int .i64 0, .int .i64 0, .int .i64 0, .slice none 0 0, .float .f32 0] 80)
  have F2 := Lib.hid (PlX.new w1 #[.int .i64 (L : Int), .int .i64 (V : Int), .float .f32 C, .float .f32 R, .slice sa bs.length sc, .slice ea es.length ec, .slice oa (ordE es).length oc, .int .i64 0, .int .i64 0, .int .i64 0, .slice none 0 0, .float .f32 0])
  go_wp2_with fail
  go_ret
  exact ⟨w1.heap.size, _, rfl, (N.out.trans N1.out).size, by simp, F2.out, F1.out, OE.out.alloc _, (N.out.trans N1.out).alloc _⟩
end Go.Proofs.YtiakcibeobbonaaGreat

/- The walks of scaleSamples, StrikeBody and, where nothing is drawn, small.
   Conditions: those that each statement names. -/
namespace Go.Proofs.YtiakcibeobbonaaGreat
set_option linter.unusedSimpArgs false
set_option linter.unusedVariables false
open Go Go.RowKit

def RowF (xs : List Nat) (n : Nat) (w : World) (e : Ending) (w' : World) : Prop :=
  ∃ v : Value, e = .returned v ∧ w'.ownsRow w.heap.size 23 1 v n (cellsS xs) ∧ Nw w w'
theorem scaled_eq (xs : List Nat) (n f : Nat) (h : xs.length = n) : (List.range n).map (fun k => opB .mul .f32 (inputOf xs k) f) = xs.map fun x => opB .mul .f32 x f := by
  subst h
  apply List.ext_getElem?
  intro i
  by_cases hi : i < xs.length
  · simp [hi, inputOf]
  · simp [hi]

set_option maxRecDepth 100000 in
theorem scaleSamples_ok (xs : List Nat) (n bi f : Nat) (v : Value) (hx : xs.length = n) (hn : n ≤ 1048576) (w : World)
    (hi : w.ownsRow bi 23 1 v n (cellsS xs)) (hc : ∀ x ∈ xs, Calm .mul .f32 x f) :
    Calls Tryz.prog 108 #[v, .float .f32 f] w (RowF (xs.map fun x => opB .mul .f32 x f) n w) := by
  obtain ⟨va, vc, rfl⟩ := own_shape' hi
  obtain ⟨f0, hf, hfz0, hfz1, hfz2⟩ := info_parts info_f32
  have Hi := Lib.hid hi
  have Hx := Lib.hid hx
  have Hc := Lib.hid hc
  clear hi hx hc
  go_enter Tryz.func108, Tryz.ntmps108
  go_wp2_with (first
    | (at_make; refine wpList_make_full _ rfl _ _ 35 rfl w.heap.size 23 f0 (.float .f32 0) 1 Tryz.underlying35 hf hfz0 hfz1 _ _ _ _ n rfl rfl rfl rfl (by rw [hfz2]; omega) (by unfold maxLen; omega) (Nat.le_refl _) ?_))
  intro w3 hown3 hgrow3
  have O3 := Lib.hid (show w3.ownsRow w.heap.size 23 1 (.slice (some ⟨w.heap.size, 0, none⟩) n n) n (cellsS (fillL (fun k => opB .mul .f32 (inputOf xs k) f) n 0)) from by
    rw [toList_madeCells_one] at hown3
    rw [fillL_zero]
    simpa [cellsS] using hown3)
  have N3 := Lib.hid (show Nw w w3 from hgrow3)
  clear hown3 hgrow3
  go_wp2_with fail
  go_loopw [13] (fun i wr => FillI w.heap.size w.heap.size n (fun k => opB .mul .f32 (inputOf xs k) f) w i wr) (fun i _ => n - (intOf i).toNat)
  case atStart => exact ⟨0, by omega, rfl, O3.out, N3.out⟩
  case round =>
    obtain ⟨k, hk, rfl, how, hnw⟩ := hrel
    have Ow := Lib.hid how
    have Nr := Lib.hid hnw
    clear how hnw
    by_cases hlt : k < n
    · obtain ⟨x, hxk⟩ : ∃ x, xs[k]? = some x := ⟨xs[k]'(by rw [Hx.out]; exact hlt), List.getElem?_eq_getElem _⟩
      obtain ⟨g, cap, hv, hcap, hmax, hgs, e0⟩ := own_sample (own_nw Hi.out Nr.out) hxk Hx.out.symm
      cases hv
      have hcx := Hc.out x (List.mem_of_getElem? hxk)
      have r1 := hcx.res
      have d1 := hcx.fdr
      have e1 := Ow.out.cellAt k (by omega)
      rw [fillL_cell _ n k hlt] at e1
      have e2 := Ow.out.frozenAt k
      have hset := Ow.out.stored k (.float .f32 (opB .mul .f32 (inputOf xs k) f))
      rw [fillL_set (fun k => opB .mul .f32 (inputOf xs k) f) n k hlt] at hset
      have hin : inputOf xs k = x := by unfold inputOf; rw [List.getD_eq_getElem?_getD, hxk]; rfl
      rw [hin] at hset
      have F := Lib.hid hset.1
      have N2 := Lib.hid (Nr.out.set (p := ⟨w.heap.size, k, none⟩) (by show w.heap.size ≤ w.heap.size; omega) (.float .f32 (opB .mul .f32 x f)))
      unfold maxLen at hmax
      clear hset hxk hcx hin
      go_wp2_with fail
      go_roundw
      case rel => exact ⟨k + 1, by omega, by rw [show ((k + 1 : Nat) : Int) = (k : Int) + 1 from by omega], F.out, N2.out⟩
      case measure => simp only [intOf]; omega
    · obtain rfl : k = n := by omega
      go_wp2_with fail
      go_ret
      exact ⟨_, rfl, by have h := Ow.out; rw [fillL_full, scaled_eq xs _ f Hx.out] at h; exact h, Nr.out⟩

end Go.Proofs.YtiakcibeobbonaaGreat

/- A voice is struck: strikeVoice (FnShifted, FnCut).
   Conditions: those that each statement names. -/
namespace Go.Proofs.YtiakcibeobbonaaGreat
set_option linter.unusedSimpArgs false
set_option linter.unusedVariables false
open Go Go.RowKit

/-- 'make' of a row, as one step of a region that draws its order -/
theorem step_make_full {P : Program} {ops : Array Oper} {o : Oper} {a : Act} {w : World} {K : Act → World → Prop} {Q : Exit → Act → World → Prop} {E : Prop}
    (hg : o.guard = none) (l c : Operand) (t : TypeId) (hop : o.op = Op.makeSlice t l c)
    (base : Nat) (e : TypeId) (i : TypeInfo) (z : Value) (size : Nat) (h1 : P.underlying t = some (.slice e)) (h2 : P.info? e = some i) (h3 : i.zero = some z) (h4 : i.size = size)
    (kl kc : IntKind) (n : Nat) (hl : a.eval l = .int kl (n : Int)) (hc : a.eval c = .int kc (n : Int)) (b2 : i.bytes * n ≤ 281474976710656) (b3 : n ≤ maxLen) (b4 : base ≤ w.heap.size)
    (hK : ∀ g w', w'.ownsRow base e size (.slice (some ⟨g, 0, none⟩) n n) n (madeCells z.cells (n * size)).toList → w.grownBy w' none → K (a.put o.dst (.slice (some ⟨g, 0, none⟩) n n)) w') :
    if Region.wanted o (yielded ops a.tmps) = true then Oper.wp P o a w K Q else E := by
  have hw : Region.wanted o (yielded ops a.tmps) = true := by simp [Region.wanted, hg]
  rw [if_pos hw]
  obtain ⟨w', hrun, r1, r2⟩ := run_make_full (P := P) w base t e i z size h1 h2 h3 h4 kl kc n b2 b3 b4
  unfold Oper.wp
  simp [execOp, hop, hl, hc, hrun, Result.andThen]
  exact hK _ w' r1 r2

theorem HasC.new4 (w : World) (T : TypeId) (v0 v1 v2 v3 : Value) : HasC (w.alloc (.cells #[v0, v1, v2, v3] T (0, 0))) w.heap.size [v0, v1, v2, v3] := by
  refine ⟨by simp, fun k v hk => ?_⟩
  match k, hk with
  | 0, hk => simp at hk; subst hk; constructor <;> go_simp
  | 1, hk => simp at hk; subst hk; constructor <;> go_simp
  | 2, hk => simp at hk; subst hk; constructor <;> go_simp
  | 3, hk => simp at hk; subst hk; constructor <;> go_simp
  | k + 4, hk => simp at hk
theorem four_at {w : World} {b : Nat} {v0 v1 v2 v3 : Value} (h : HasC w b [v0, v1, v2, v3]) :
    (w.cell? ⟨b, 0, none⟩ = some v0 ∧ w.frozen? ⟨b, 0, none⟩ = false) ∧ (w.cell? ⟨b, 1, none⟩ = some v1 ∧ w.frozen? ⟨b, 1, none⟩ = false) ∧ (w.cell? ⟨b, 2, none⟩ = some v2 ∧ w.frozen? ⟨b, 2, none⟩ = false) ∧
    (w.cell? ⟨b, 3, none⟩ = some v3 ∧ w.frozen? ⟨b, 3, none⟩ = false) :=
  ⟨h.2 0 _ rfl, h.2 1 _ rfl, h.2 2 _ rfl, h.2 3 _ rfl⟩
theorem nw_four {w w' : World} {b : Nat} (h : Nw w w') (hb : w.heap.size ≤ b) (v0 v1 v2 v3 : Value) : Nw w ((((w'.setCell ⟨b, 0, none⟩ v0).setCell ⟨b, 1, none⟩ v1).setCell ⟨b, 2, none⟩ v2).setCell ⟨b, 3, none⟩ v3) :=
  (((h.set (p := ⟨b, 0, none⟩) hb _).set (p := ⟨b, 1, none⟩) hb _).set (p := ⟨b, 2, none⟩) hb _).set (p := ⟨b, 3, none⟩) hb _
theorem own_four {w : World} {base b : Nat} {E : TypeId} {size n : Nat} {v : Value} {xs : List Value} (h : w.ownsRow base E size v n xs) (hb : b < base) (v0 v1 v2 v3 : Value) :
    ((((w.setCell ⟨b, 0, none⟩ v0).setCell ⟨b, 1, none⟩ v1).setCell ⟨b, 2, none⟩ v2).setCell ⟨b, 3, none⟩ v3).ownsRow base E size v n xs :=
  own_set (p := ⟨b, 3, none⟩) (own_set (p := ⟨b, 2, none⟩) (own_set (p := ⟨b, 1, none⟩) (own_set (p := ⟨b, 0, none⟩) h hb _) hb _) hb _) hb _
theorem cell_four {w : World} {a o b : Nat} {v : Value} (h : w.cell? ⟨a, o, none⟩ = some v) (hb : a ≠ b) (v0 v1 v2 v3 : Value) : ((((w.setCell ⟨b, 0, none⟩ v0).setCell ⟨b, 1, none⟩ v1).setCell ⟨b, 2, none⟩ v2).setCell ⟨b, 3, none⟩ v3).cell? ⟨a, o, none⟩ = some v := by
  rw [World.cell?_of_block (a := ⟨a, o, none⟩) (w := w) (by rw [Below.heap_setCell _ _ _ _ hb, Below.heap_setCell _ _ _ _ hb, Below.heap_setCell _ _ _ _ hb, Below.heap_setCell _ _ _ _ hb]), h]
theorem made_c64 {w : World} {base n : Nat} {v : Value} (h : w.ownsRow base 91 1 v n (madeCells (Value.complex .f32 0 0).cells (n * 1)).toList) : w.ownsRow base 91 1 v n (cellsC (List.replicate n (0, 0))) := by
  have h : w.ownsRow base 91 1 v n (madeCells #[Value.complex .f32 0 0] (n * 1)).toList := h
  rw [Nat.mul_one, toList_madeCells_one] at h
  simpa [cellsC] using h

def VoiceP (b : Int) (ms : List M4) (xs : List Nat) (w : World) (e : Ending) (w' : World) : Prop :=
  ∃ (vm vi : Value) (g : Nat), e = .returned (.agg #[.int .i64 b, vm, .slice (some ⟨g, 0, none⟩) ms.length ms.length, vi]) ∧
    w'.ownsRow w.heap.size 93 2 vm ms.length (cellsM ms) ∧
    w'.ownsRow w.heap.size 91 1 (.slice (some ⟨g, 0, none⟩) ms.length ms.length) ms.length (cellsC (List.replicate ms.length (0, 0))) ∧
    w'.ownsRow w.heap.size 23 1 vi xs.length (cellsS xs) ∧ Nw w w'
theorem voice_fin {w W : World} {n n' m g : Nat} {ms : List M4} {ss : List (Nat × Nat)} {xs : List Nat} {vm vi : Value} (h1 : W.ownsRow (w.heap.size + 3) 93 2 vm n' (cellsM ms)) (h2 : W.ownsRow (w.heap.size + 3) 91 1 (.slice (some ⟨g, 0, none⟩) n n) n (cellsC ss)) (h3 : W.ownsRow (w.heap.size + 3) 23 1 vi m (cellsS xs)) (hN : Nw w W) (u0 : Value) :
    let W' := ((((W.setCell ⟨w.heap.size + 2, 0, none⟩ u0).setCell ⟨w.heap.size + 2, 1, none⟩ vm).setCell ⟨w.heap.size + 2, 2, none⟩ (.slice (some ⟨g, 0, none⟩) n n)).setCell ⟨w.heap.size + 2, 3, none⟩ vi)
    W'.ownsRow w.heap.size 93 2 vm n' (cellsM ms) ∧ W'.ownsRow w.heap.size 91 1 (.slice (some ⟨g, 0, none⟩) n n) n (cellsC ss) ∧ W'.ownsRow w.heap.size 23 1 vi m (cellsS xs) ∧ Nw w W' :=
  ⟨own_base (own_four h1 (by omega) _ _ _ _) (by omega), own_base (own_four h2 (by omega) _ _ _ _) (by omega), own_base (own_four h3 (by omega) _ _ _ _) (by omega), nw_four hN (by omega) _ _ _ _⟩

set_option maxHeartbeats 12800000 in
set_option maxRecDepth 100000 in
theorem strikeVoice_ok (ms : List M4) (n bm : Nat) (v : Value) (t k b : Int) (s m f : Nat) (hn : ms.length = n) (hn64 : n ≤ 64) (hs : s ≤ 2) (hm1 : 1 ≤ m) (hm : m ≤ 64) (hf : ∀ x ∈ shapeL s m, Calm .mul .f32 x f) (w : World)
    (ho : w.ownsRow bm 93 2 v n (cellsM ms)) :
    Calls Tryz.prog 91 #[.agg #[v], .agg #[.int .i64 t, .int .i64 k, .int .i64 b, .int .i64 (s : Int), .int .i64 (m : Int), .float .f32 f]] w (VoiceP b ms ((shapeL s m).map fun x => opB .mul .f32 x f) w) := by
  obtain ⟨va, vc, rfl⟩ := own_shape' ho
  obtain ⟨j0, hj, hjz0, hjz1, hjz2⟩ := info_parts info_c64
  have hsl : (shapeL s m).length = m := by simp [shapeL]
  have Ho := Lib.hid ho
  have Hn := Lib.hid hn
  have Hf := Lib.hid hf
  clear ho hn hf
  have B0 := Lib.hid (show Has1 _ w.heap.size _ from Has1.new w 65 (.slice va n vc))
  have E0 := Lib.hid (HasC.new (w.alloc (.cells #[.slice va n vc] 65 (0, 0))) 68 (.int .i64 t) (.int .i64 k) (.int .i64 b) (.int .i64 (s : Int)) (.int .i64 (m : Int)) (.float .f32 f))
  have R0 := Lib.hid (HasC.new4 ((w.alloc (.cells #[.slice va n vc] 65 (0, 0))).alloc (.cells #[.int .i64 t, .int .i64 k, .int .i64 b, .int .i64 (s : Int), .int .i64 (m : Int), .float .f32 f] 68 (0, 0))) 59 (.int .i64 0) (.slice none 0 0) (.slice none 0 0) (.slice none 0 0))
  have Nz := Lib.hid ((((Nw.refl w).alloc (.cells #[.slice va n vc] 65 (0, 0))).alloc (.cells #[.int .i64 t, .int .i64 k, .int .i64 b, .int .i64 (s : Int), .int .i64 (m : Int), .float .f32 f] 68 (0, 0))).alloc (.cells #[.int .i64 0, .slice none 0 0, .slice none 0 0, .slice none 0 0] 59 (0, 0)))
  have B1 := Lib.hid ((B0.out.alloc (.cells #[.int .i64 t, .int .i64 k, .int .i64 b, .int .i64 (s : Int), .int .i64 (m : Int), .float .f32 f] 68 (0, 0))).alloc (.cells #[.int .i64 0, .slice none 0 0, .slice none 0 0, .slice none 0 0] 59 (0, 0)))
  have E1 := Lib.hid (E0.out.alloc (.cells #[.int .i64 0, .slice none 0 0, .slice none 0 0, .slice none 0 0] 59 (0, 0)))
  have hA : ∀ (w : World) o, (w.alloc o).heap.size = w.heap.size + 1 := fun w o => by simp
  rw [hA] at E1
  rw [hA, hA] at R0
  clear hA
  clear B0 E0
  go_enter Tryz.func91, Tryz.ntmps91
  go_wp2_with fail
  refine (strikeShape_ok s m hs hm1 hm _).mono ?_
  rintro e w1 ⟨g, rfl, own1, n1⟩
  have B2 := Lib.hid (B1.out.nw n1)
  have E2 := Lib.hid (E1.out.nw n1)
  have R1 := Lib.hid (show HasC w1 (w.heap.size + 2) _ from R0.out.nw n1)
  have N1 := Lib.hid (Nz.out.trans n1)
  have Ho1 := Lib.hid (own_nw Ho.out N1.out)
  obtain ⟨bi, oi1⟩ : ∃ bi, w1.ownsRow bi 23 1 (.slice (some ⟨g, 0, none⟩) m m) m (cellsS (shapeL s m)) := ⟨_, own1⟩
  have Oi1 := Lib.hid oi1
  have hsz : w.heap.size + 3 ≤ w1.heap.size := by have := n1.size; simp at this; omega
  clear oi1
  clear B1 E1 R0 Nz n1 own1 Ho
  have KeepS := Lib.hid (show ∀ W, Nw w1 W → W.cell? ⟨w.heap.size, 0, none⟩ = some (.slice va n vc) ∧ W.cell? ⟨w.heap.size + 1, 2, none⟩ = some (.int .i64 b) ∧ W.cell? ⟨w.heap.size + 1, 5, none⟩ = some (.float .f32 f) from fun W hW => by
    obtain ⟨-, y0, -⟩ := B2.out.nw hW
    obtain ⟨-, -, ⟨y1, -⟩, -, -, y2, -⟩ := six_at (E2.out.nw hW)
    exact ⟨y0, y1, y2⟩)
  go_wp2_with fail
  refine wp_region_held_drew (S := fun w' => w'.cell? ⟨w.heap.size, 0, none⟩ = some (.slice va n vc) ∧ w'.cell? ⟨w.heap.size + 1, 2, none⟩ = some (.int .i64 b) ∧ w'.cell? ⟨w.heap.size + 1, 5, none⟩ = some (.float .f32 f)) (by kernel_rfl) ?_ (fun hHeld => ?_)
  · exact KeepS.out _ ((Nw.refl _).draw 1)
  have N0 := Lib.hid (show Nw w1 w1.drew from (Nw.refl _).draw 1)
  refine wpAnyH_take (i := 0) (oi := _) (v := ?_) rfl (by kernel_rfl) (by kernel_rfl) (by kernel_rfl) (fun _ _ _ h => h) (_root_.Or.inl ⟨by rfl, ?_⟩) (by assumption) ?_
  rotate_left
  · intro w hSw
    (try dsimp only at hSw)
    go_simp
    all_goals with_reducible rfl
  try simp only [List.getElem_toArray, List.getElem_cons_succ, List.getElem_cons_zero, Act.put, List.setIfInBounds_toArray, List.set_cons_zero, List.set_cons_succ]
  refine wpAnyH_take (i := 1) (oi := _) (v := ?_) rfl (by kernel_rfl) (by kernel_rfl) (by kernel_rfl) (fun _ _ _ h => h) (_root_.Or.inl ⟨by rfl, ?_⟩) (by assumption) ?_
  rotate_left
  · intro w hSw
    (try dsimp only at hSw)
    go_simp
    all_goals with_reducible rfl
  try simp only [List.getElem_toArray, List.getElem_cons_succ, List.getElem_cons_zero, Act.put, List.setIfInBounds_toArray, List.set_cons_zero, List.set_cons_succ]
  refine wpAnyH_take (i := 2) (oi := _) (v := ?_) rfl (by kernel_rfl) (by kernel_rfl) (by kernel_rfl) (fun _ _ _ h => h) (_root_.Or.inl ⟨by rfl, ?_⟩) (by assumption) ?_
  rotate_left
  · intro w hSw
    (try dsimp only at hSw)
    go_simp
    all_goals with_reducible rfl
  try simp only [List.getElem_toArray, List.getElem_cons_succ, List.getElem_cons_zero, Act.put, List.setIfInBounds_toArray, List.set_cons_zero, List.set_cons_succ]
  refine wpAnyH_take (i := 3) (oi := _) (v := ?_) rfl (by kernel_rfl) (by kernel_rfl) (by kernel_rfl) (fun _ _ _ h => h) (_root_.Or.inl ⟨by rfl, ?_⟩) (by assumption) ?_
  rotate_left
  · intro w hSw
    (try dsimp only at hSw)
    go_simp
    all_goals with_reducible rfl
  try simp only [List.getElem_toArray, List.getElem_cons_succ, List.getElem_cons_zero, Act.put, List.setIfInBounds_toArray, List.set_cons_zero, List.set_cons_succ]
  refine wpAnyH_take (i := 5) (oi := _) (v := ?_) rfl (by kernel_rfl) (by kernel_rfl) (by kernel_rfl) (fun _ _ _ h => h) (_root_.Or.inl ⟨by rfl, ?_⟩) (by assumption) ?_
  rotate_left
  · intro w hSw
    (try dsimp only at hSw)
    go_simp
    all_goals with_reducible rfl
  try simp only [List.getElem_toArray, List.getElem_cons_succ, List.getElem_cons_zero, Act.put, List.setIfInBounds_toArray, List.set_cons_zero, List.set_cons_succ]
  refine wpAnyH_take (i := 6) (oi := _) (v := ?_) rfl (by kernel_rfl) (by kernel_rfl) (by kernel_rfl) (fun _ _ _ h => h) (_root_.Or.inl ⟨by rfl, ?_⟩) (by assumption) ?_
  rotate_left
  · intro w hSw
    (try dsimp only at hSw)
    go_simp
    all_goals with_reducible rfl
  try simp only [List.getElem_toArray, List.getElem_cons_succ, List.getElem_cons_zero, Act.put, List.setIfInBounds_toArray, List.set_cons_zero, List.set_cons_succ]
  refine wpAnyH_take (i := 7) (oi := _) (v := ?_) rfl (by kernel_rfl) (by kernel_rfl) (by kernel_rfl) (fun _ _ _ h => h) (_root_.Or.inl ⟨by rfl, ?_⟩) (by assumption) ?_
  rotate_left
  · intro w hSw
    (try dsimp only at hSw)
    go_simp
    all_goals with_reducible rfl
  try simp only [List.getElem_toArray, List.getElem_cons_succ, List.getElem_cons_zero, Act.put, List.setIfInBounds_toArray, List.set_cons_zero, List.set_cons_succ]
  refine wpAnyH_take (i := 9) (oi := _) (v := ?_) rfl (by kernel_rfl) (by kernel_rfl) (by kernel_rfl) (fun _ _ _ h => h) (_root_.Or.inl ⟨by rfl, ?_⟩) (by assumption) ?_
  rotate_left
  · intro w hSw
    (try dsimp only at hSw)
    go_simp
    all_goals with_reducible rfl
  try simp only [List.getElem_toArray, List.getElem_cons_succ, List.getElem_cons_zero, Act.put, List.setIfInBounds_toArray, List.set_cons_zero, List.set_cons_succ]
  refine wpAnyH_take (i := 10) (oi := _) (v := ?_) rfl (by kernel_rfl) (by kernel_rfl) (by kernel_rfl) (fun _ _ _ h => h) (_root_.Or.inl ⟨by rfl, ?_⟩) (by assumption) ?_
  rotate_left
  · intro w hSw
    (try dsimp only at hSw)
    go_simp
    all_goals with_reducible rfl
  try simp only [List.getElem_toArray, List.getElem_cons_succ, List.getElem_cons_zero, Act.put, List.setIfInBounds_toArray, List.set_cons_zero, List.set_cons_succ]
  refine wpAnyH_take (i := 11) (oi := _) (v := ?_) rfl (by kernel_rfl) (by kernel_rfl) (by kernel_rfl) (fun _ _ _ h => h) (_root_.Or.inl ⟨by rfl, ?_⟩) (by assumption) ?_
  rotate_left
  · intro w hSw
    (try dsimp only at hSw)
    go_simp
    all_goals with_reducible rfl
  try simp only [List.getElem_toArray, List.getElem_cons_succ, List.getElem_cons_zero, Act.put, List.setIfInBounds_toArray, List.set_cons_zero, List.set_cons_succ]
  refine wpAnyH_ready (rs := [4, 8]) (by kernel_rfl) (by simp) ?_
  refine AllReadyH.cons (o := _) rfl (fun K hK => ?_) ?_
  · go_simp
    go_at_call 64
    refine (clone_modes ms n bm (.slice va n vc) Hn.out hn64 _ (own_nw Ho1.out N0.out)).mono ?_
    rintro e W1 ⟨vm, rfl, om, d⟩
    obtain ⟨ma, mc, rfl⟩ := own_shape' om
    have NW1 := Lib.hid (Nw.trans N0.out d)
    have OM := Lib.hid (show W1.ownsRow (w.heap.size + 3) 93 2 (.slice ma ms.length mc) ms.length (cellsM ms) from own_base om (Nat.le_trans hsz N0.out.size))
    clear d om hHeld
    go_wp2_with fail
    refine hK.out _ _ ?_ (fun hHeld => ?_)
    · exact KeepS.out _ NW1.out
    clear hK K
    try simp only [List.getElem_toArray, List.getElem_cons_succ, List.getElem_cons_zero, Act.put, List.setIfInBounds_toArray, List.set_cons_zero, List.set_cons_succ]
    refine wpAnyH_ready (rs := [8, 12]) (by kernel_rfl) (by simp) ?_
    refine AllReadyH.cons (o := _) rfl (fun K hK => ?_) ?_
    · refine step_make_full rfl (.tmp 22) (.tmp 22) 57 rfl (w.heap.size + 3) 91 j0 (.complex .f32 0 0) 1 Tryz.underlying57 hj hjz0 hjz1 .i64 .i64 n rfl rfl (by rw [hjz2]; omega) (by unfold maxLen; omega) (Nat.le_trans hsz NW1.out.size) ?_
      intro gs W2 os d
      have NW2 := Lib.hid (show Nw w1 W2 from Nw.trans NW1.out d)
      have OS := Lib.hid (made_c64 os)
      have OM := Lib.hid (own_nw OM.out d)
      clear d os hHeld
      refine hK.out _ _ ?_ (fun hHeld => ?_)
      · exact KeepS.out _ NW2.out
      clear hK K
      try simp only [List.getElem_toArray, List.getElem_cons_succ, List.getElem_cons_zero, Act.put, List.setIfInBounds_toArray, List.set_cons_zero, List.set_cons_succ]
      refine wpAnyH_ready (rs := [12]) (by kernel_rfl) (by simp) ?_
      refine AllReadyH.cons (o := _) rfl (fun K hK => ?_) AllReadyH.nil
      go_simp
      go_at_call 108
      refine (scaleSamples_ok (shapeL s m) m bi f (.slice (some ⟨g, 0, none⟩) m m) hsl (by omega) _ (own_nw Oi1.out NW2.out) Hf.out).mono ?_
      rintro e W3 ⟨vi, rfl, oi, d⟩
      obtain ⟨ia, ic, rfl⟩ := own_shape' oi
      have NW3 := Lib.hid (Nw.trans NW2.out d)
      have OI := Lib.hid (show W3.ownsRow (w.heap.size + 3) 23 1 (.slice ia m ic) m (cellsS ((shapeL s m).map fun x => opB .mul .f32 x f)) from own_base oi (Nat.le_trans hsz NW2.out.size))
      have OM := Lib.hid (own_nw OM.out d)
      have OS := Lib.hid (own_nw OS.out d)
      clear d oi hHeld
      go_wp2_with fail
      refine hK.out _ _ ?_ (fun hHeld => ?_)
      · exact KeepS.out _ NW3.out
      clear hK K
      try simp only [List.getElem_toArray, List.getElem_cons_succ, List.getElem_cons_zero, Act.put, List.setIfInBounds_toArray, List.set_cons_zero, List.set_cons_succ]
      refine wpAnyH_take (i := 13) (oi := _) (v := ?_) rfl (by kernel_rfl) (by kernel_rfl) (by kernel_rfl) (fun _ _ _ h => h) (_root_.Or.inl ⟨by rfl, ?_⟩) (by assumption) ?_
      rotate_left
      · intro w hSw
        (try dsimp only at hSw)
        go_simp
        all_goals with_reducible rfl
      try simp only [List.getElem_toArray, List.getElem_cons_succ, List.getElem_cons_zero, Act.put, List.setIfInBounds_toArray, List.set_cons_zero, List.set_cons_succ]
      refine wpAnyH_ready (rs := [14]) (by kernel_rfl) (by simp) ?_
      refine AllReadyH.cons (o := _) rfl (fun K hK => ?_) AllReadyH.nil
      have R := Lib.hid (R1.out.nw NW3.out)
      obtain ⟨⟨r0, s0⟩, ⟨r1, s1⟩, ⟨r2, s2⟩, r3, s3⟩ := four_at R.out
      go_simp
      refine hK.out _ _ ?_ (fun hHeld => ?_)
      · obtain ⟨z0, z1, z2⟩ := KeepS.out _ NW3.out
        exact ⟨cell_four z0 (by omega) _ _ _ _, cell_four z1 (by omega) _ _ _ _, cell_four z2 (by omega) _ _ _ _⟩
      clear hK K hHeld
      try simp only [List.getElem_toArray, List.getElem_cons_succ, List.getElem_cons_zero, Act.put, List.setIfInBounds_toArray, List.set_cons_zero, List.set_cons_succ]
      refine wpAnyH_done (by kernel_rfl) ?_ _
      have Fin := Lib.hid (voice_fin OM.out OS.out OI.out (N1.out.trans NW3.out) (.int .i64 b))
      go_wp2_with fail
      exact bodyPost_ret (v := .agg #[.int .i64 b, .slice ma ms.length mc, .slice (some ⟨gs, 0, none⟩) n n, .slice ia m ic]) (by simp [results, Tryz.results91, go_sem, r0, r1, r2, r3, s0]) rfl ⟨.slice ma ms.length mc, .slice ia m ic, gs, by rw [Hn.out], Fin.out.1, by simpa only [Hn.out] using Fin.out.2.1, by simpa [hsl] using Fin.out.2.2.1, Fin.out.2.2.2⟩
    refine AllReadyH.cons (o := _) rfl (fun K hK => ?_) AllReadyH.nil
    go_simp
    go_at_call 108
    refine (scaleSamples_ok (shapeL s m) m bi f (.slice (some ⟨g, 0, none⟩) m m) hsl (by omega) _ (own_nw Oi1.out NW1.out) Hf.out).mono ?_
    rintro e W4 ⟨vi, rfl, oi, d⟩
    obtain ⟨ia, ic, rfl⟩ := own_shape' oi
    have NW4 := Lib.hid (Nw.trans NW1.out d)
    have OI := Lib.hid (show W4.ownsRow (w.heap.size + 3) 23 1 (.slice ia m ic) m (cellsS ((shapeL s m).map fun x => opB .mul .f32 x f)) from own_base oi (Nat.le_trans hsz NW1.out.size))
    have OM := Lib.hid (own_nw OM.out d)
    clear d oi hHeld
    go_wp2_with fail
    refine hK.out _ _ ?_ (fun hHeld => ?_)
    · exact KeepS.out _ NW4.out
    clear hK K
    try simp only [List.getElem_toArray, List.getElem_cons_succ, List.getElem_cons_zero, Act.put, List.setIfInBounds_toArray, List.set_cons_zero, List.set_cons_succ]
    refine wpAnyH_ready (rs := [8]) (by kernel_rfl) (by simp) ?_
    refine AllReadyH.cons (o := _) rfl (fun K hK => ?_) AllReadyH.nil
    refine step_make_full rfl (.tmp 22) (.tmp 22) 57 rfl (w.heap.size + 3) 91 j0 (.complex .f32 0 0) 1 Tryz.underlying57 hj hjz0 hjz1 .i64 .i64 n rfl rfl (by rw [hjz2]; omega) (by unfold maxLen; omega) (Nat.le_trans hsz NW4.out.size) ?_
    intro gs W5 os d
    have NW5 := Lib.hid (show Nw w1 W5 from Nw.trans NW4.out d)
    have OS := Lib.hid (made_c64 os)
    have OM := Lib.hid (own_nw OM.out d)
    have OI := Lib.hid (own_nw OI.out d)
    clear d os hHeld
    refine hK.out _ _ ?_ (fun hHeld => ?_)
    · exact KeepS.out _ NW5.out
    clear hK K
    try simp only [List.getElem_toArray, List.getElem_cons_succ, List.getElem_cons_zero, Act.put, List.setIfInBounds_toArray, List.set_cons_zero, List.set_cons_succ]
    refine wpAnyH_take (i := 13) (oi := _) (v := ?_) rfl (by kernel_rfl) (by kernel_rfl) (by kernel_rfl) (fun _ _ _ h => h) (_root_.Or.inl ⟨by rfl, ?_⟩) (by assumption) ?_
    rotate_left
    · intro w hSw
      (try dsimp only at hSw)
      go_simp
      all_goals with_reducible rfl
    try simp only [List.getElem_toArray, List.getElem_cons_succ, List.getElem_cons_zero, Act.put, List.setIfInBounds_toArray, List.set_cons_zero, List.set_cons_succ]
    refine wpAnyH_ready (rs := [14]) (by kernel_rfl) (by simp) ?_
    refine AllReadyH.cons (o := _) rfl (fun K hK => ?_) AllReadyH.nil
    have R := Lib.hid (R1.out.nw NW5.out)
    obtain ⟨⟨r0, s0⟩, ⟨r1, s1⟩, ⟨r2, s2⟩, r3, s3⟩ := four_at R.out
    go_simp
    refine hK.out _ _ ?_ (fun hHeld => ?_)
    · obtain ⟨z0, z1, z2⟩ := KeepS.out _ NW5.out
      exact ⟨cell_four z0 (by omega) _ _ _ _, cell_four z1 (by omega) _ _ _ _, cell_four z2 (by omega) _ _ _ _⟩
    clear hK K hHeld
    try simp only [List.getElem_toArray, List.getElem_cons_succ, List.getElem_cons_zero, Act.put, List.setIfInBounds_toArray, List.set_cons_zero, List.set_cons_succ]
    refine wpAnyH_done (by kernel_rfl) ?_ _
    have Fin := Lib.hid (voice_fin OM.out OS.out OI.out (N1.out.trans NW5.out) (.int .i64 b))
    go_wp2_with fail
    exact bodyPost_ret (v := .agg #[.int .i64 b, .slice ma ms.length mc, .slice (some ⟨gs, 0, none⟩) n n, .slice ia m ic]) (by simp [results, Tryz.results91, go_sem, r0, r1, r2, r3, s0]) rfl ⟨.slice ma ms.length mc, .slice ia m ic, gs, by rw [Hn.out], Fin.out.1, by simpa only [Hn.out] using Fin.out.2.1, by simpa [hsl] using Fin.out.2.2.1, Fin.out.2.2.2⟩
  refine AllReadyH.cons (o := _) rfl (fun K hK => ?_) AllReadyH.nil
  refine step_make_full rfl (.tmp 22) (.tmp 22) 57 rfl (w.heap.size + 3) 91 j0 (.complex .f32 0 0) 1 Tryz.underlying57 hj hjz0 hjz1 .i64 .i64 n rfl rfl (by rw [hjz2]; omega) (by unfold maxLen; omega) (Nat.le_trans hsz N0.out.size) ?_
  intro gs W6 os d
  have NW6 := Lib.hid (show Nw w1 W6 from Nw.trans N0.out d)
  have OS := Lib.hid (made_c64 os)
  clear d os hHeld
  refine hK.out _ _ ?_ (fun hHeld => ?_)
  · exact KeepS.out _ NW6.out
  clear hK K
  try simp only [List.getElem_toArray, List.getElem_cons_succ, List.getElem_cons_zero, Act.put, List.setIfInBounds_toArray, List.set_cons_zero, List.set_cons_succ]
  refine wpAnyH_ready (rs := [4]) (by kernel_rfl) (by simp) ?_
  refine AllReadyH.cons (o := _) rfl (fun K hK => ?_) AllReadyH.nil
  go_simp
  go_at_call 64
  refine (clone_modes ms n bm (.slice va n vc) Hn.out hn64 _ (own_nw Ho1.out NW6.out)).mono ?_
  rintro e W7 ⟨vm, rfl, om, d⟩
  obtain ⟨ma, mc, rfl⟩ := own_shape' om
  have NW7 := Lib.hid (Nw.trans NW6.out d)
  have OM := Lib.hid (show W7.ownsRow (w.heap.size + 3) 93 2 (.slice ma ms.length mc) ms.length (cellsM ms) from own_base om (Nat.le_trans hsz NW6.out.size))
  have OS := Lib.hid (own_nw OS.out d)
  clear d om hHeld
  go_wp2_with fail
  refine hK.out _ _ ?_ (fun hHeld => ?_)
  · exact KeepS.out _ NW7.out
  clear hK K
  try simp only [List.getElem_toArray, List.getElem_cons_succ, List.getElem_cons_zero, Act.put, List.setIfInBounds_toArray, List.set_cons_zero, List.set_cons_succ]
  refine wpAnyH_ready (rs := [12]) (by kernel_rfl) (by simp) ?_
  refine AllReadyH.cons (o := _) rfl (fun K hK => ?_) AllReadyH.nil
  go_simp
  go_at_call 108
  refine (scaleSamples_ok (shapeL s m) m bi f (.slice (some ⟨g, 0, none⟩) m m) hsl (by omega) _ (own_nw Oi1.out NW7.out) Hf.out).mono ?_
  rintro e W8 ⟨vi, rfl, oi, d⟩
  obtain ⟨ia, ic, rfl⟩ := own_shape' oi
  have NW8 := Lib.hid (Nw.trans NW7.out d)
  have OI := Lib.hid (show W8.ownsRow (w.heap.size + 3) 23 1 (.slice ia m ic) m (cellsS ((shapeL s m).map fun x => opB .mul .f32 x f)) from own_base oi (Nat.le_trans hsz NW7.out.size))
  have OS := Lib.hid (own_nw OS.out d)
  have OM := Lib.hid (own_nw OM.out d)
  clear d oi hHeld
  go_wp2_with fail
  refine hK.out _ _ ?_ (fun hHeld => ?_)
  · exact KeepS.out _ NW8.out
  clear hK K
  try simp only [List.getElem_toArray, List.getElem_cons_succ, List.getElem_cons_zero, Act.put, List.setIfInBounds_toArray, List.set_cons_zero, List.set_cons_succ]
  refine wpAnyH_take (i := 13) (oi := _) (v := ?_) rfl (by kernel_rfl) (by kernel_rfl) (by kernel_rfl) (fun _ _ _ h => h) (_root_.Or.inl ⟨by rfl, ?_⟩) (by assumption) ?_
  rotate_left
  · intro w hSw
    (try dsimp only at hSw)
    go_simp
    all_goals with_reducible rfl
  try simp only [List.getElem_toArray, List.getElem_cons_succ, List.getElem_cons_zero, Act.put, List.setIfInBounds_toArray, List.set_cons_zero, List.set_cons_succ]
  refine wpAnyH_ready (rs := [14]) (by kernel_rfl) (by simp) ?_
  refine AllReadyH.cons (o := _) rfl (fun K hK => ?_) AllReadyH.nil
  have R := Lib.hid (R1.out.nw NW8.out)
  obtain ⟨⟨r0, s0⟩, ⟨r1, s1⟩, ⟨r2, s2⟩, r3, s3⟩ := four_at R.out
  go_simp
  refine hK.out _ _ ?_ (fun hHeld => ?_)
  · obtain ⟨z0, z1, z2⟩ := KeepS.out _ NW8.out
    exact ⟨cell_four z0 (by omega) _ _ _ _, cell_four z1 (by omega) _ _ _ _, cell_four z2 (by omega) _ _ _ _⟩
  clear hK K hHeld
  try simp only [List.getElem_toArray, List.getElem_cons_succ, List.getElem_cons_zero, Act.put, List.setIfInBounds_toArray, List.set_cons_zero, List.set_cons_succ]
  refine wpAnyH_done (by kernel_rfl) ?_ _
  have Fin := Lib.hid (voice_fin OM.out OS.out OI.out (N1.out.trans NW8.out) (.int .i64 b))
  go_wp2_with fail
  exact bodyPost_ret (v := .agg #[.int .i64 b, .slice ma ms.length mc, .slice (some ⟨gs, 0, none⟩) n n, .slice ia m ic]) (by simp [results, Tryz.results91, go_sem, r0, r1, r2, r3, s0]) rfl ⟨.slice ma ms.length mc, .slice ia m ic, gs, by rw [Hn.out], Fin.out.1, by simpa only [Hn.out] using Fin.out.2.1, by simpa [hsl] using Fin.out.2.2.1, Fin.out.2.2.2⟩
end Go.Proofs.YtiakcibeobbonaaGreat
