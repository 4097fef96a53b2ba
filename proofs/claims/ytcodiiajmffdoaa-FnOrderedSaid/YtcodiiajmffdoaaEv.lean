/- Equal numbers, 0 and -0 alike: every operation takes equal numbers to equal numbers; what is read decides what an operation gives. No program stands in it.
   Conditions: none beyond those that each statement names. -/
import Derived.Test.YtcodiiajmffdoaaMono
import Derived.Test.YtcodiiajmffdoaaDamp
import Derived.Test.YtcodiiajmffdoaaTrajS
namespace Go.Proofs.Ytcodiiajmffdoaa
open Go
namespace Flo
open Ieee

def Zr (f : Format) (a : Nat) : Prop := ∃ s p, f.read a = .number s 0 p
/-- the same bits, or two zeros -/
def Ev (f : Format) (a b : Nat) : Prop := a = b ∨ (Zr f a ∧ Zr f b)
theorem Ev.refl (f : Format) (a : Nat) : Ev f a a := .inl rfl
theorem Ev.symm {f : Format} {a b : Nat} (h : Ev f a b) : Ev f b a := by
  rcases h with rfl | ⟨h1, h2⟩
  · exact .inl rfl
  · exact .inr ⟨h2, h1⟩
theorem Ev.trans {f : Format} {a b c : Nat} (h : Ev f a b) (k : Ev f b c) : Ev f a c := by
  rcases h with rfl | ⟨h1, h2⟩
  · exact k
  · rcases k with rfl | ⟨k1, k2⟩
    · exact .inr ⟨h1, h2⟩
    · exact .inr ⟨h1, k2⟩
theorem Ev.zr {f : Format} {a b : Nat} (h : Ev f a b) (k : Zr f b) : Zr f a := by
  rcases h with rfl | ⟨h1, h2⟩
  · exact k
  · exact h1
def EvO (f : Format) : Option Nat → Option Nat → Prop
  | none, none => True
  | some a, some b => Ev f a b
  | _, _ => False
theorem EvO.refl (f : Format) (a : Option Nat) : EvO f a a := by cases a <;> simp [EvO, Ev.refl]
theorem EvO.trans {f : Format} {a b c : Option Nat} (h : EvO f a b) (k : EvO f b c) : EvO f a c := by
  cases a <;> cases b <;> cases c <;> simp only [EvO] at * <;> first | trivial | contradiction | exact Ev.trans h k
theorem EvO.getD {f : Format} {a b : Option Nat} (h : EvO f a b) : Ev f (a.getD 0) (b.getD 0) := by
  cases a <;> cases b <;> simp only [EvO] at h <;> first | contradiction | exact Ev.refl f _ | exact h

theorem write_zero (f : Format) (s : Bool) (p : Int) : Zr f (f.write (.number s 0 p)) := by
  refine ⟨s, f.leastPlace, ?_⟩
  show f.read (f.nearest s 0 p) = _
  have : f.nearest s 0 p = f.word s 0 := by unfold Format.nearest; simp
  rw [this, zero_read]

/-- of equal numbers other than 0 the same word is written -/
theorem write_same (f : Format) (s : Bool) (m n : Nat) (p q : Int) (hm : m ≠ 0) (h : (m : Rat) * pw p = (n : Rat) * pw q) : f.write (.number s m p) = f.write (.number s n q) := by
  have hn : n ≠ 0 := by
    intro hn; subst hn
    exact hm (mag_zero (by rw [h]; simp))
  show f.nearest s m p = f.nearest s n q
  rw [nearest_eq f s m p hm, nearest_eq f s n q hn]
  have z1 := size_pw m p hm
  have z2 := size_pw n q hn
  have l1 : p + (m.log2 : Int) < q + n.log2 + 1 := lt_of_pw_lt (by grind)
  have l2 : q + (n.log2 : Int) < p + m.log2 + 1 := lt_of_pw_lt (by grind)
  have hl : lastOf f m p = lastOf f n q := by unfold lastOf; omega
  have k1 := kept_mono f s s m n p q hm hn (by rw [h]; exact Rat.le_refl)
  have k2 := kept_mono f s s n m q p hn hm (by rw [h]; exact Rat.le_refl)
  rw [hl] at k1 k2
  have hp := pw_pos (lastOf f n q)
  have e1 : keptOf f s m p ≤ keptOf f s n q := le_nat_of _ _ (lastOf f n q) (by grind)
  have e2 : keptOf f s n q ≤ keptOf f s m p := le_nat_of _ _ (lastOf f n q) (by grind)
  have e3 : keptOf f s m p = keptOf f s n q := by omega
  unfold rungOf
  rw [hl, e3]

theorem write_ev (f : Format) (s t : Bool) (m n : Nat) (p q : Int) (h : val s m p = val t n q) : Ev f (f.write (.number s m p)) (f.write (.number t n q)) := by
  have hm0 := mag_nonneg m p
  have hn0 := mag_nonneg n q
  by_cases hm : m = 0
  · subst hm
    have hn : n = 0 := by
      rw [val_zero] at h
      apply mag_zero (p := q)
      unfold val at h
      cases t <;> simp at h <;> grind
    subst hn
    exact .inr ⟨write_zero f s p, write_zero f t q⟩
  · have hmp : 0 < (m : Rat) * pw p := by
      rcases Classical.em ((m : Rat) * pw p ≤ 0) with h0 | h0
      · exact absurd (mag_zero h0) hm
      · grind
    have hst : s = t := by
      unfold val at h
      cases s <;> cases t <;> simp at h <;> first | rfl | (exfalso; grind)
    subst hst
    left
    apply write_same f s m n p q hm
    unfold val at h
    cases s <;> simp at h <;> grind

/-! ### the operations -/
theorem sum_zero (f : Format) (s t : Bool) (p q : Int) (d : Datum) : EvO f ((Datum.sum (.number s 0 p) d).map f.write) ((Datum.sum (.number t 0 q) d).map f.write) := by
  cases d with
  | nan a b => simp [Datum.sum, EvO]
  | infinity a => simp [Datum.sum, EvO, Ev.refl]
  | number u n j =>
    obtain ⟨a, k, b, h1, h2⟩ := sum_val s u 0 n p j
    obtain ⟨a', k', b', h1', h2'⟩ := sum_val t u 0 n q j
    rw [h1, h1']
    show Ev f _ _
    apply write_ev
    rw [h2, h2', val_zero, val_zero]
theorem sum_comm (a b : Datum) : a.sum b = b.sum a := by
  cases a <;> cases b <;> simp only [Datum.sum]
  · rename_i s m i t n j
    congr 2
    · rw [Int.min_comm, Int.add_comm]
      split <;> simp [Bool.and_comm]
    · rw [Int.min_comm, Int.add_comm]
    · exact Int.min_comm _ _
  · rename_i s t
    by_cases h : s = t
    · subst h; rfl
    · rw [if_neg h, if_neg (fun e => h e.symm)]
theorem add_ev_left (f : Format) (x x' y : Nat) (h : Ev f x x') : EvO f (f.add x y) (f.add x' y) := by
  rcases h with rfl | ⟨⟨s, p, h1⟩, ⟨t, q, h2⟩⟩
  · exact EvO.refl f _
  · unfold Format.add; rw [h1, h2]; exact sum_zero f s t p q _
theorem add_comm' (f : Format) (x y : Nat) : f.add x y = f.add y x := by unfold Format.add; rw [sum_comm]
theorem add_ev (f : Format) (x x' y y' : Nat) (h : Ev f x x') (k : Ev f y y') : EvO f (f.add x y) (f.add x' y') :=
  (add_ev_left f x x' y h).trans (by rw [add_comm' f x' y, add_comm' f x' y']; exact add_ev_left f y y' x' k)
theorem sub_ev (f : Format) (x x' y y' : Nat) (h : Ev f x x') (k : Ev f y y') : EvO f (f.sub x y) (f.sub x' y') := by
  refine EvO.trans (b := f.sub x' y) ?_ ?_
  · rcases h with rfl | ⟨⟨s, p, h1⟩, ⟨t, q, h2⟩⟩
    · exact EvO.refl f _
    · unfold Format.sub; rw [h1, h2]; exact sum_zero f s t p q _
  · rcases k with rfl | ⟨⟨s, p, h1⟩, ⟨t, q, h2⟩⟩
    · exact EvO.refl f _
    · unfold Format.sub; rw [h1, h2]
      show EvO f ((Datum.sum _ (.number (!s) 0 p)).map f.write) ((Datum.sum _ (.number (!t) 0 q)).map f.write)
      rw [sum_comm, sum_comm (f.read x')]
      exact sum_zero f _ _ p q _
theorem product_comm (a b : Datum) : a.product b = b.product a := by
  cases a <;> cases b <;> simp only [Datum.product, Bool.xor_comm, Nat.mul_comm, Int.add_comm]
theorem mul_comm' (f : Format) (x y : Nat) : f.mul x y = f.mul y x := by unfold Format.mul; rw [product_comm]
theorem mul_ev_left (f : Format) (x x' y : Nat) (h : Ev f x x') : EvO f (f.mul x y) (f.mul x' y) := by
  rcases h with rfl | ⟨⟨s, p, h1⟩, ⟨t, q, h2⟩⟩
  · exact EvO.refl f _
  · unfold Format.mul; rw [h1, h2]
    cases f.read y with
    | nan a b => simp [Datum.product, EvO]
    | infinity a => simp [Datum.product, EvO]
    | number u n j =>
      simp only [Datum.product, Nat.zero_mul, Option.map_some]
      exact .inr ⟨write_zero f _ _, write_zero f _ _⟩
theorem mul_ev (f : Format) (x x' y y' : Nat) (h : Ev f x x') (k : Ev f y y') : EvO f (f.mul x y) (f.mul x' y') :=
  (mul_ev_left f x x' y h).trans (by rw [mul_comm' f x' y, mul_comm' f x' y']; exact mul_ev_left f y y' x' k)
theorem mul_zr {f : Format} {x y : Nat} (h : Zr f x) (k : IsNum f y) : ∃ r, f.mul x y = some r ∧ Zr f r := by
  obtain ⟨s, p, h⟩ := h
  obtain ⟨t, n, j, k⟩ := k
  refine ⟨_, by unfold Format.mul; rw [h, k]; simp only [Datum.product, Nat.zero_mul]; rfl, write_zero f _ _⟩
theorem add_zr {f : Format} {x y : Nat} (h : Zr f x) (k : Zr f y) : ∃ r, f.add x y = some r ∧ Zr f r := by
  obtain ⟨s, p, h⟩ := h
  obtain ⟨t, q, k⟩ := k
  obtain ⟨a, c, b, h1, h2⟩ := sum_val s t 0 0 p q
  rw [val_zero, val_zero] at h2
  have hc : c = 0 := by
    apply mag_zero (p := b)
    unfold val at h2
    have := mag_nonneg c b
    cases a <;> simp at h2 <;> grind
  subst hc
  exact ⟨_, by unfold Format.add; rw [h, k, h1]; rfl, write_zero f _ _⟩
theorem sub_zr {f : Format} {x y : Nat} (h : Zr f x) (k : Zr f y) : ∃ r, f.sub x y = some r ∧ Zr f r := by
  obtain ⟨s, p, h⟩ := h
  obtain ⟨t, q, k⟩ := k
  obtain ⟨a, c, b, h1, h2⟩ := sum_val s (!t) 0 0 p q
  rw [val_zero, val_zero] at h2
  have hc : c = 0 := by
    apply mag_zero (p := b)
    unfold val at h2
    have := mag_nonneg c b
    cases a <;> simp at h2 <;> grind
  subst hc
  exact ⟨_, by unfold Format.sub; rw [h, k]; show (Datum.sum _ (.number (!t) 0 q)).map f.write = _; rw [h1]; rfl, write_zero f _ _⟩

/-- what is read is written, and read, as it is -/
theorem read_back (f : Format) (hbi : f.binade ≤ f.infRung) {b : Nat} {s : Bool} {m : Nat} {p : Int} (h : f.read b = .number s m p) : f.read (f.write (.number s m p)) = .number s m p := by
  have hb := bin_pos f
  have hbb : f.binade = 2 ^ f.fractionBits := rfl
  by_cases hm : m = 0
  · subst hm
    have hp : p = f.leastPlace := by
      unfold Format.read at h
      simp only at h
      split at h
      · injection h with a b c; exact c.symm
      · split at h
        · injection h with a b c; omega
        · split at h <;> cases h
    subst hp
    show f.read (f.nearest s 0 f.leastPlace) = _
    have : f.nearest s 0 f.leastPlace = f.word s 0 := by unfold Format.nearest; simp
    rw [this, zero_read]
  · -- the rung
    obtain ⟨r, hr, hrd⟩ : ∃ r, r < f.infRung ∧ (if r < f.binade then Datum.number s r f.leastPlace else .number s (f.binade + r % f.binade) (f.leastPlace + (r / f.binade - 1 : Nat))) = .number s m p := by
      unfold Format.read at h
      simp only at h
      by_cases h1 : b % f.signWeight < f.binade
      · rw [if_pos h1] at h
        injection h with a1 a2 a3
        refine ⟨b % f.signWeight, ?_, by rw [if_pos h1, a2, a3]⟩
        omega
      · rw [if_neg h1] at h
        by_cases h2 : b % f.signWeight < f.infRung
        · rw [if_pos h2] at h
          injection h with a1 a2 a3
          exact ⟨b % f.signWeight, h2, by rw [if_neg h1, a2, a3]⟩
        · rw [if_neg h2] at h
          split at h <;> cases h
    have hw : f.write (.number s m p) = f.word s r := by
      show f.nearest s m p = _
      rw [nearest_eq f s m p hm]
      by_cases h1 : r < f.binade
      · rw [if_pos h1] at hrd
        injection hrd with a1 a2 a3
        subst a2; subst a3
        have hl : lastOf f r f.leastPlace = f.leastPlace := by
          have : r.log2 < f.fractionBits := (Nat.log2_lt hm).2 (by rw [← hbb]; exact h1)
          unfold lastOf; omega
        have hk : keptOf f s r f.leastPlace = r := by
          unfold keptOf; rw [hl]; simp [Toward.cut, Nat.mod_one]
        unfold rungOf
        rw [hl, hk, Int.sub_self, Int.toNat_zero, Nat.zero_mul, Nat.zero_add, Nat.min_eq_left (Nat.le_of_lt hr)]
      · rw [if_neg h1] at hrd
        injection hrd with a1 a2 a3
        have hlt := Nat.mod_lt r hb
        have hlog : m.log2 = f.fractionBits := by
          have h3 : m < 2 ^ (f.fractionBits + 1) := by rw [Nat.pow_succ, ← hbb]; omega
          have h4 : 2 ^ f.fractionBits ≤ m := by rw [← hbb]; omega
          have h5 := (Nat.log2_lt hm).2 h3
          have h6 := (Nat.le_log2 hm).2 h4
          omega
        have hl : lastOf f m p = p := by unfold lastOf; omega
        have hk : keptOf f s m p = m := by
          unfold keptOf; rw [hl]; simp [Toward.cut, Nat.mod_one]
        have hdiv := Nat.div_add_mod r f.binade
        have hq : 1 ≤ r / f.binade := Nat.div_pos (by omega) hb
        unfold rungOf
        rw [hl, hk]
        have e1 : (p - f.leastPlace).toNat = r / f.binade - 1 := by omega
        rw [e1]
        have e2 : (r / f.binade - 1) * f.binade + m = r := by
          rw [Nat.sub_mul, Nat.one_mul, ← a2]
          have e3 : r / f.binade * f.binade = f.binade * (r / f.binade) := Nat.mul_comm _ _
          have e4 : f.binade ≤ f.binade * (r / f.binade) := Nat.le_mul_of_pos_right _ hq
          omega
        rw [e2, Nat.min_eq_left (Nat.le_of_lt hr)]
    rw [hw, read_word f s hr]
    exact hrd
end Flo
end Go.Proofs.Ytcodiiajmffdoaa
