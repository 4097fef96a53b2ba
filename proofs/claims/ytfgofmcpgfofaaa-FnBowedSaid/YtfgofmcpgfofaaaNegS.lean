/- Rounding does not look at the sign: differences, quotients and forces of opposite numbers are opposite.
   Conditions: those that each statement names. -/
import Derived.Test.YtfgofmcpgfofaaaBowW
import Derived.Test.YtfgofmcpgfofaaaFit
import Derived.Test.YtfgofmcpgfofaaaNg
namespace Go.Proofs.Ytfgofmcpgfofaaa
open Go Go.RowKit

theorem ng_word (s : Bool) (r : Nat) (h : r < 2 ^ 31) : ng (Ieee.single.word s r) = Ieee.single.word (!s) r := by
  have hsw : Ieee.single.signWeight = 2 ^ 31 := rfl
  have key : ng r = 2 ^ 31 + r := by
    have e1 := ng_mod r
    have e2 := ng_bit r
    have hlt : ng r < 2 ^ 32 := by rw [ng_eq]; exact Nat.xor_lt_two_pow (by omega) (by decide)
    rw [Nat.mod_eq_of_lt h] at e1
    rw [Nat.div_eq_of_lt h] at e2
    have e3 : ng r / 2 ^ 31 % 2 = 1 := by simpa using e2
    omega
  unfold Ieee.Format.word
  rw [hsw]
  cases s with
  | false => simpa using key
  | true =>
    simp only [Bool.not_true, if_true, Bool.false_eq_true, if_false]
    rw [← key, ng_ng]
theorem write_ng (s : Bool) (m : Nat) (p : Int) (h : m ≠ 0) : Ieee.single.write (.number (!s) m p) = ng (Ieee.single.write (.number s m p)) := by
  show Ieee.single.nearest (!s) m p = ng (Ieee.single.nearest s m p)
  have hk : Flo.rungOf Ieee.single (!s) m p = Flo.rungOf Ieee.single s m p := rfl
  have hi : Ieee.single.infRung < 2 ^ 31 := by decide
  rw [Flo.nearest_eq _ _ _ _ h, Flo.nearest_eq _ _ _ _ h, hk, ng_word _ _ (by omega)]

/-- the difference of the opposite numbers -/
theorem sub_ng (x y : Nat) (hx : Sm x) (hy : Sm y) : ∃ q q2 K e, floatBits .sub .f32 x y = some (Ieee.single.write (.number q K e)) ∧ floatBits .sub .f32 (ng x) (ng y) = some (Ieee.single.write (.number q2 K e)) ∧ (K ≠ 0 → q2 = !q) := by
  obtain ⟨s, m, i, hx⟩ := hx
  obtain ⟨t, n, j, hy⟩ := hy
  have hs : ∀ (s : Bool) (m k : Nat), Ieee.signed (!s) m k = - Ieee.signed s m k := by
    intro s m k; unfold Ieee.signed; cases s <;> simp
  have h1 : floatBits .sub .f32 x y = (Ieee.Datum.sum (.number s m i) (.number (!t) n j)).map Ieee.single.write := by
    show Ieee.single.sub x y = _
    unfold Ieee.Format.sub
    rw [hx, hy]; rfl
  have h2 : floatBits .sub .f32 (ng x) (ng y) = (Ieee.Datum.sum (.number (!s) m i) (.number (!(!t)) n j)).map Ieee.single.write := by
    show Ieee.single.sub (ng x) (ng y) = _
    unfold Ieee.Format.sub
    rw [ng_read x hx, ng_read y hy]; rfl
  rw [h1, h2]
  obtain ⟨T, hT⟩ : ∃ T : Int, T = Ieee.signed s m (i - min i j).toNat + Ieee.signed (!t) n (j - min i j).toNat := ⟨_, rfl⟩
  have hT2 : Ieee.signed (!s) m (i - min i j).toNat + Ieee.signed (!(!t)) n (j - min i j).toNat = -T := by rw [hs s, hs (!t), hT]; omega
  have e1 : Ieee.Datum.sum (.number s m i) (.number (!t) n j) = some (.number (if T = 0 then s && !t else decide (T < 0)) T.natAbs (min i j)) := by rw [hT]; rfl
  have e2 : Ieee.Datum.sum (.number (!s) m i) (.number (!(!t)) n j) = some (.number (if -T = 0 then (!s) && !(!t) else decide (-T < 0)) (-T).natAbs (min i j)) := by rw [← hT2]; rfl
  rw [e1, e2, Int.natAbs_neg]
  refine ⟨_, _, _, _, rfl, rfl, fun hK => ?_⟩
  have h0 : T ≠ 0 := fun e => hK (by rw [e]; rfl)
  rw [if_neg h0, if_neg (by omega)]
  by_cases hn : T < 0
  · rw [decide_eq_true hn, decide_eq_false (by omega)]; rfl
  · rw [decide_eq_false hn, decide_eq_true (by omega)]; rfl

/-- A difference and that of the opposite numbers: opposite words, or both are zeros. -/
theorem sub_two (x y : Nat) (hx : Sm x) (hy : Sm y) (h8 : Flo.Ab (S x) 9) : ∃ D D2, floatBits .sub .f32 x y = some D ∧ floatBits .sub .f32 (ng x) (ng y) = some D2 ∧ Sm D ∧ Sm D2 ∧ S D2 = - S D ∧ (S D ≠ 0 → D2 = ng D) := by
  obtain ⟨q, q2, K, e, h1, h2, h3⟩ := sub_ng x y hx hy
  obtain ⟨c, hs⟩ := fit_sub x y hx hy h8
  have hD : opB .sub .f32 x y = Ieee.single.write (.number q K e) := by unfold opB; rw [h1]; rfl
  rw [hD] at hs
  refine ⟨_, _, h1, h2, hs, ?_⟩
  by_cases hK : K = 0
  · subst hK
    have hz : ∀ b, Ieee.single.read (Ieee.single.write (.number b 0 e)) = .number b 0 (-149) := by
      intro b
      show Ieee.single.read (Ieee.single.nearest b 0 e) = _
      have : Ieee.single.nearest b 0 e = Ieee.single.word b 0 := by unfold Ieee.Format.nearest; simp
      rw [this, Flo.zero_read]; rfl
    have hv : ∀ b, S (Ieee.single.write (.number b 0 e)) = 0 := by
      intro b
      rw [show S (Ieee.single.write (.number b 0 e)) = Flo.val b 0 (-149) from Flo.V_eq (hz b)]
      unfold Flo.val; cases b <;> simp
    refine ⟨⟨_, _, _, hz q2⟩, by rw [hv, hv]; grind, fun h => absurd (hv q) h⟩
  · have e2 := h3 hK
    subst e2
    rw [write_ng q K e hK]
    obtain ⟨a, b⟩ := ng_val hs
    exact ⟨a, b, fun _ => rfl⟩

/-- the stick's test by values -/
theorem le32_iff {a b : Nat} (ha : Sm a) (hb : Sm b) : (FloatKind.f32.format.order a b == some .lt || FloatKind.f32.format.order a b == some .eq) = true ↔ S a ≤ S b := by
  rw [show FloatKind.f32.format = Ieee.single from rfl, Bool.or_eq_true, beq_iff_eq, beq_iff_eq]
  have o := Flo.order_num Ieee.single a b ha hb
  constructor
  · rintro (h | h)
    · have := o.1.1 h; exact Rat.le_of_lt this
    · have := o.2.1.1 h; show Flo.V Ieee.single a ≤ Flo.V Ieee.single b; rw [this]; exact Rat.le_refl
  · intro h
    by_cases e : S a = S b
    · exact .inr (o.2.1.2 e)
    · exact .inl (o.1.2 (by show S a < S b; grind))
theorem stick_iff {d g : Nat} (hd : Sm d) (hg : Sm g) : stickB d g = true ↔ ra (S d) ≤ S g := by
  obtain ⟨s, m, i, h⟩ := hd
  obtain ⟨n, j, hw, he⟩ := wid_read h
  obtain ⟨n', j', l1, l2⟩ := labs_read (wid_lt d) hw
  obtain ⟨g1, g2⟩ := wid_num hg
  have hv : Flo.V Ieee.double (labs (wid d)) = ra (S d) := by
    rw [Flo.V_eq l1, show S d = Flo.val s m i from Flo.V_eq h, Flo.val_ra, ← he, ← l2]
    unfold Flo.val; simp
  have o := Flo.order_num Ieee.double (labs (wid d)) (wid g) ⟨_, _, _, l1⟩ g1
  rw [hv, show Flo.V Ieee.double (wid g) = S g from g2] at o
  unfold stickB
  rw [show nan32 g = false from (by obtain ⟨t, k, l, hr⟩ := hg; unfold nan32; rw [show FloatKind.f32.decode g = _ from hr]; rfl), show FloatKind.f64.format = Ieee.double from rfl]
  simp only [Bool.not_false, Bool.true_and, Bool.or_eq_true, beq_iff_eq]
  constructor
  · rintro (h | h)
    · exact Rat.le_of_lt (o.1.1 h)
    · rw [o.2.1.1 h]; exact Rat.le_refl
  · intro h
    by_cases e : ra (S d) = S g
    · exact .inr (o.2.1.2 e)
    · exact .inl (o.1.2 (by grind))

/-! ### the force -/
/-- what a written number reads as -/
theorem write_read (s : Bool) (M : Nat) (p : Int) : (∃ k l, Ieee.single.read (Ieee.single.write (.number s M p)) = .number s k l) ∨ Ieee.single.read (Ieee.single.write (.number s M p)) = .infinity s := by
  show (∃ k l, Ieee.single.read (Ieee.single.nearest s M p) = _) ∨ Ieee.single.read (Ieee.single.nearest s M p) = _
  by_cases h : M = 0
  · subst h
    have : Ieee.single.nearest s 0 p = Ieee.single.word s 0 := by unfold Ieee.Format.nearest; simp
    rw [this, Flo.zero_read]
    exact .inl ⟨_, _, rfl⟩
  · by_cases hr : Flo.rungOf Ieee.single s M p < Ieee.single.infRung
    · obtain ⟨k, l, h1, -⟩ := Flo.read_nearest Ieee.single s M p h hr
      exact .inl ⟨_, _, h1⟩
    · right
      rw [Flo.nearest_eq _ _ _ _ h, Nat.min_eq_right (by omega)]
      exact Flo.read_word_inf Ieee.single s
theorem ran (q : Rat) : ra (-q) = ra q := by unfold ra; split <;> split <;> grind
theorem raz : ra 0 = 0 := by unfold ra; simp
theorem order_same {b : Nat} {s : Bool} (h : (∃ k l, Ieee.single.read b = .number s k l) ∨ Ieee.single.read b = .infinity s) : (FloatKind.f32.format.order b b == some .eq) = true := by
  rw [show FloatKind.f32.format = Ieee.single from rfl, beq_iff_eq]
  rcases h with ⟨k, l, h⟩ | h
  · exact (Flo.order_num Ieee.single b b ⟨_, _, _, h⟩ ⟨_, _, _, h⟩).2.1.2 rfl
  · unfold Ieee.Format.order; rw [h]; cases s <;> rfl
theorem order_pos {b : Nat} (h : (∃ k l, Ieee.single.read b = .number false k l) ∨ Ieee.single.read b = .infinity false) : (FloatKind.f32.format.order b 0 == some .lt) = false := by
  rw [show FloatKind.f32.format = Ieee.single from rfl]
  have hz : Ieee.single.read 0 = .number false 0 (-149) := by decide
  rcases h with ⟨k, l, h⟩ | h
  · have o := (Flo.order_num Ieee.single b 0 ⟨_, _, _, h⟩ ⟨_, _, _, hz⟩).1
    cases hc : (Ieee.single.order b 0 == some .lt)
    · rfl
    · rw [beq_iff_eq] at hc
      have hlt := o.1 hc
      rw [Flo.V_eq h, Flo.V_eq hz] at hlt
      have hn := Flo.mag_nonneg k l
      unfold Flo.val at hlt
      simp at hlt
      grind
  · unfold Ieee.Format.order; rw [h, hz]; rfl

theorem force_two (x y g : Nat) (hx : Sm x) (hy : Sm y) (h8 : Flo.Ab (S x) 9) (hg : Sm g) (g0 : 0 ≤ S g) (g8 : Flo.Ab (S g) 9) :
    ∃ D r1 r2, floatBits .sub .f32 x y = some D ∧ Sm D ∧ forceA x y g = some r1 ∧ forceA (ng x) (ng y) g = some r2 ∧ (FloatKind.f32.format.order r1 (ng r2) == some .eq) = true ∧
      ((((FloatKind.f32.format.order D g == some .lt || FloatKind.f32.format.order D g == some .eq) && (FloatKind.f32.format.order (ng D) g == some .lt || FloatKind.f32.format.order (ng D) g == some .eq)) = true ∧ (FloatKind.f32.format.order r1 D == some .eq) = true) ∨
       (((FloatKind.f32.format.order D g == some .lt || FloatKind.f32.format.order D g == some .eq) && (FloatKind.f32.format.order (ng D) g == some .lt || FloatKind.f32.format.order (ng D) g == some .eq)) = false ∧ ∃ P, floatBits .mul .f32 r1 D = some P ∧ (FloatKind.f32.format.order P 0 == some .lt) = false)) := by
  obtain ⟨D, D2, h1, h2, hD, hD2, hS, hn⟩ := sub_two x y hx hy h8
  obtain ⟨nD, nS⟩ := ng_val hD
  have hB : ((FloatKind.f32.format.order D g == some .lt || FloatKind.f32.format.order D g == some .eq) && (FloatKind.f32.format.order (ng D) g == some .lt || FloatKind.f32.format.order (ng D) g == some .eq)) = true ↔ ra (S D) ≤ S g := by
    rw [Bool.and_eq_true, le32_iff hD hg, le32_iff nD hg, nS]
    constructor
    · rintro ⟨a, b⟩; exact ra_le ⟨by grind, a⟩
    · intro h; have := ra_ab (S D); exact ⟨by have := this.2; grind, by have := this.1; grind⟩
  by_cases hst : ra (S D) ≤ S g
  · have s1 := (stick_iff hD hg).2 hst
    have s2 := (stick_iff hD2 hg).2 (by rw [hS]; have : ra (-S D) = ra (S D) := ran _; rw [this]; exact hst)
    obtain ⟨nD2, nS2⟩ := ng_val hD2
    refine ⟨D, D, D2, h1, hD, by unfold forceA; rw [h1]; simp only [s1, if_true], by unfold forceA; rw [h2]; simp only [s2, if_true], ?_, .inl ⟨hB.2 hst, ?_⟩⟩
    · rw [show FloatKind.f32.format = Ieee.single from rfl, beq_iff_eq]
      exact (Flo.order_num Ieee.single D (ng D2) hD nD2).2.1.2 (by show S D = S (ng D2); rw [nS2, hS]; grind)
    · rw [show FloatKind.f32.format = Ieee.single from rfl, beq_iff_eq]
      exact (Flo.order_num Ieee.single D D hD hD).2.1.2 rfl
  · have s1 : stickB D g = false := by
      cases h : stickB D g
      · rfl
      · exact absurd ((stick_iff hD hg).1 h) hst
    have hS0 : S D ≠ 0 := by
      intro e
      rw [e] at hst
      exact hst (by have : ra 0 = 0 := raz; rw [this]; exact g0)
    have hD2e := hn hS0
    subst hD2e
    have s2 : stickB (ng D) g = false := by
      cases h : stickB (ng D) g
      · rfl
      · exfalso; have h3 := (stick_iff nD hg).1 h; rw [nS, ran] at h3; exact hst h3
    have hB0 : ((FloatKind.f32.format.order D g == some .lt || FloatKind.f32.format.order D g == some .eq) && (FloatKind.f32.format.order (ng D) g == some .lt || FloatKind.f32.format.order (ng D) g == some .eq)) = false := by
      cases h : ((FloatKind.f32.format.order D g == some .lt || FloatKind.f32.format.order D g == some .eq) && (FloatKind.f32.format.order (ng D) g == some .lt || FloatKind.f32.format.order (ng D) g == some .eq))
      · rfl
      · exact absurd (hB.1 h) hst
    obtain ⟨sD, n, j, hrD⟩ := hD
    have hn0 : n ≠ 0 := by
      intro e
      subst e
      apply hS0
      rw [show S D = Flo.val sD 0 j from Flo.V_eq hrD]
      unfold Flo.val; cases sD <;> simp
    obtain ⟨sg, mg, ig, hrg⟩ := hg
    have hl9 : Flo.pw 7 < Flo.pw 127 := Flo.pw_lt (by omega)
    rw [show Flo.pw 7 = 128 from Flo.pw_nat 7] at hl9
    obtain ⟨g2, q1, q2, -⟩ := Flo.s_mul g g ⟨_, _, _, hrg⟩ ⟨_, _, _, hrg⟩ (9 * 9) (g8.mul g8) (by grind)
    have hg2w : g2 = Ieee.single.write (.number (sg ^^ sg) (mg * mg) (ig + ig)) := by
      have h3 : floatBits .mul .f32 g g = some (Ieee.single.write (.number (sg ^^ sg) (mg * mg) (ig + ig))) := by
        show Ieee.single.mul g g = _
        unfold Ieee.Format.mul
        rw [hrg]; rfl
      rw [h3] at q1; injection q1 with q1; exact q1.symm
    obtain ⟨k, l, hr2⟩ : ∃ k l, Ieee.single.read g2 = .number false k l := by
      have h3 := write_read (sg ^^ sg) (mg * mg) (ig + ig)
      rw [← hg2w, Bool.xor_self] at h3
      rcases h3 with h3 | h3
      · exact h3
      · obtain ⟨a, b, c, h4⟩ := q2; rw [h3] at h4; cases h4
    have hfg : fA .mul .f32 (fab .f32 g) (fab .f32 g) = some g2 := by
      rw [fab_some (show (FloatKind.f32.decode g).isNaN = false from by rw [show FloatKind.f32.decode g = _ from hrg]; rfl)]
      exact q1
    obtain ⟨Q, e, hq⟩ : ∃ Q e, ∀ s, Ieee.Datum.quotient (Ieee.single.fractionBits + 2) (.number false k l) (.number s n j) = some (.number s Q e) := by
      let more := Ieee.single.fractionBits + 2 + n.log2 - k.log2
      let dividend := k <<< more
      refine ⟨2 * (dividend / n) + (dividend % n != 0).toNat, l - j - (more : Int) - 1, fun s => ?_⟩
      simp only [Ieee.Datum.quotient, if_neg hn0, Bool.false_xor]
      rfl
    have hquo : ∀ d s, Ieee.single.read d = .number s n j → floatBits .quo .f32 g2 d = some (Ieee.single.write (.number s Q e)) := by
      intro d s hd
      show Ieee.single.div g2 d = _
      unfold Ieee.Format.div
      rw [hr2, hd, hq s]; rfl
    have hng : ng (Ieee.single.write (.number (!sD) Q e)) = Ieee.single.write (.number sD Q e) := by
      by_cases hQ : Q = 0
      · subst hQ
        have hw : ∀ b, Ieee.single.write (.number b 0 e) = Ieee.single.word b 0 := by
          intro b
          show Ieee.single.nearest b 0 e = _
          unfold Ieee.Format.nearest; simp
        rw [hw, hw, ng_word _ _ (by decide), Bool.not_not]
      · rw [write_ng sD Q e hQ, ng_ng]
    have hr1 := write_read sD Q e
    refine ⟨D, Ieee.single.write (.number sD Q e), Ieee.single.write (.number (!sD) Q e), h1, ⟨_, _, _, hrD⟩, ?_, ?_, ?_, .inr ⟨hB0, ?_⟩⟩
    · unfold forceA; rw [h1]; simp only [s1, Bool.false_eq_true, if_false]; rw [hfg]; exact hquo D sD hrD
    · unfold forceA; rw [h2]; simp only [s2, Bool.false_eq_true, if_false]; rw [hfg]; exact hquo _ _ (ng_read D hrD)
    · rw [hng]; exact order_same hr1
    · rcases hr1 with ⟨a, b, hr1⟩ | hr1
      · refine ⟨Ieee.single.write (.number false (a * n) (b + j)), ?_, order_pos (write_read _ _ _)⟩
        show Ieee.single.mul _ D = _
        unfold Ieee.Format.mul
        rw [hr1, hrD]
        show (some (Ieee.Datum.number (sD ^^ sD) (a * n) (b + j))).map _ = _
        rw [Bool.xor_self]; rfl
      · refine ⟨Ieee.single.write (.infinity false), ?_, order_pos (.inr (Flo.read_word_inf Ieee.single false))⟩
        show Ieee.single.mul _ D = _
        unfold Ieee.Format.mul
        rw [hr1, hrD]
        show (if n = 0 then none else some (Ieee.Datum.infinity (sD ^^ sD))).map _ = _
        rw [if_neg hn0, Bool.xor_self]; rfl
end Go.Proofs.Ytfgofmcpgfofaaa
