/- A bow that sticks: its states and velocities as plain functions, bounded through ten steps, and no NaN in the eleventh's states.
   Conditions: those that each statement names. -/
import Derived.Test.YtfgofmcpgfofaaaBowN
import Derived.Test.YtfgofmcpgfofaaaRingB
import Derived.Test.YtfgofmcpgfofaaaMergeB
namespace Go.Proofs.Ytfgofmcpgfofaaa
open Go Go.RowKit

/-- the states and the velocity after k steps, where the bow sticks each time -/
def bowSt (ms : List M4) (x0 : Nat) : Nat → List (Nat × Nat) × Nat
  | 0 => (ms.map fun _ => (0, 0), 0)
  | k + 1 => (stepAll ms (bowSt ms x0 k).1 (opB .sub .f32 x0 (bowSt ms x0 k).2), outS (stepAll ms (bowSt ms x0 k).1 (opB .sub .f32 x0 (bowSt ms x0 k).2)))
def bowF (ms : List M4) (x0 k : Nat) : Nat := opB .sub .f32 x0 (bowSt ms x0 k).2
theorem bowSt_len (ms : List M4) (x0 : Nat) : ∀ k, (bowSt ms x0 k).1.length = ms.length
  | 0 => by simp [bowSt]
  | k + 1 => by simp [bowSt, stepAll, bowSt_len ms x0 k]

/-- the bound of a state's part after k steps -/
def tb : Nat → Nat
  | 0 => 0
  | k + 1 => 3083 * tb k + 9400
theorem tb_all : (List.range 11).all (fun k => decide (tb k ≤ 2 ^ 118)) = true := by decide +kernel
theorem tb_le (k : Nat) (h : k ≤ 10) : tb k ≤ 2 ^ 118 := by
  have := (List.all_eq_true.1 tb_all) k (List.mem_range.2 (by omega))
  exact of_decide_eq_true this
theorem tf_all : (List.range 10).all (fun k => decide (4 * tb k + 10 ≤ 2 ^ 110)) = true := by decide +kernel
theorem tf_le (k : Nat) (h : k < 10) : 4 * tb k + 10 ≤ 2 ^ 110 := by
  have := (List.all_eq_true.1 tf_all) k (List.mem_range.2 h)
  exact of_decide_eq_true this
theorem tbR (k : Nat) (h : k ≤ 10) : ((tb k : Nat) : Rat) ≤ Flo.pw 118 := by
  have h1 : ((tb k : Nat) : Rat) ≤ ((2 ^ 118 : Nat) : Rat) := by exact_mod_cast tb_le k h
  rw [show Flo.pw 118 = ((2 ^ 118 : Nat) : Rat) from Flo.pw_nat 118]
  exact h1
theorem tfR (k : Nat) (h : k < 10) : 4 * ((tb k : Nat) : Rat) + 10 ≤ Flo.pw 110 := by
  have h1 : ((4 * tb k + 10 : Nat) : Rat) ≤ ((2 ^ 110 : Nat) : Rat) := by exact_mod_cast tf_le k h
  rw [show Flo.pw 110 = ((2 ^ 110 : Nat) : Rat) from Flo.pw_nat 110]
  have h2 : ((4 * tb k + 10 : Nat) : Rat) = 4 * ((tb k : Nat) : Rat) + 10 := by push_cast; rfl
  rw [h2] at h1
  exact h1

theorem sum_num (T U v es : Rat) (j : Rat) (hj : 0 ≤ j) (hj3 : j ≤ 2) (hT : 0 ≤ T) (hU : U = j * T + j * T / 100000 + j / 1000) (ve : v * 16777216 = 1) (e0 : 0 < es) (es1 : es ≤ 1 / 1048576) :
    U + T + ((U + T) * v + es) ≤ (j + 1) * T + (j + 1) * T / 100000 + (j + 1) / 1000 ∧ 0 ≤ U ∧ U ≤ 3 * T + 1 := by
  have hv : v = 1 / 16777216 := by grind
  have hjT : j * T ≤ 2 * T := Rat.mul_le_mul_of_nonneg_right hj3 hT
  have hjT0 : 0 ≤ j * T := Rat.mul_nonneg hj hT
  subst hv; subst hU
  refine ⟨?_, ?_, ?_⟩
  · have e1 : (j + 1) * T = j * T + T := by grind
    rw [e1]
    generalize j * T = q at *
    grind
  · generalize j * T = q at *
    grind
  · generalize j * T = q at *
    grind
/-- the sum of at most three outputs -/
theorem sum_small (ss : List (Nat × Nat)) (T : Rat) (hT0 : 0 ≤ T) (hT : T ≤ Flo.pw 118) (h : ∀ s ∈ ss, Sm s.1 ∧ Flo.Ab (S s.1) T) :
    ∀ k : Nat, k ≤ 3 → k ≤ ss.length → Sm (outS (ss.take k)) ∧ Flo.Ab (S (outS (ss.take k))) ((k : Rat) * T + (k : Rat) * T / 100000 + (k : Rat) / 1000)
  | 0, _, _ => by
    refine ⟨zero_single.1, ?_⟩
    show Flo.Ab (S 0) _
    rw [zero_single.2]
    constructor <;> simp <;> grind
  | k + 1, h3, hl => by
    obtain ⟨i1, i2⟩ := sum_small ss T hT0 hT h k (by omega) (by omega)
    have hs : ss[k]? = some (ss[k]'(by omega)) := List.getElem?_eq_getElem _
    obtain ⟨s1, s2⟩ := h _ (List.getElem_mem (by omega : k < ss.length))
    rw [outS_take ss k _ hs]
    have hk : (k : Rat) ≤ 2 := by
      have : ((k : Nat) : Rat) ≤ ((2 : Nat) : Rat) := by exact_mod_cast (by omega : k ≤ 2)
      exact this
    have hk0 : (0 : Rat) ≤ k := by exact_mod_cast Nat.zero_le k
    obtain ⟨n1, n2, n3⟩ := sum_num T _ Flo.v Flo.es (k : Rat) hk0 hk hT0 rfl Flo.v_eq Flo.es_pos small'.es1
    have l1 : Flo.pw 126 = 256 * Flo.pw 118 := by rw [show (126 : Int) = 8 + 118 from rfl, Flo.pw_add, show Flo.pw 8 = 256 from Flo.pw_nat 8]
    have l3 := Flo.pw_lt (a := 126) (b := 127) (by omega)
    have l4 : 1 ≤ Flo.pw 118 := by rw [← Flo.pw_zero]; exact Flo.pw_le (by omega)
    obtain ⟨r, r1, r2, r3⟩ := Flo.s_add _ _ i1 s1 _ (i2.add s2) (by grind)
    obtain ⟨-, b2⟩ := Calm.of r1
    rw [b2]
    refine ⟨r2, (((i2.add s2).add r3).eq (by grind)).mono ?_⟩
    rw [show ((k + 1 : Nat) : Rat) = (k : Rat) + 1 from by push_cast; rfl]
    exact n1

/-- what is known after k steps -/
structure BowOk (ms : List M4) (x0 k : Nat) : Prop where
  st : ∀ s ∈ (bowSt ms x0 k).1, (Sm s.1 ∧ Flo.Ab (S s.1) (tb k)) ∧ (Sm s.2 ∧ Flo.Ab (S s.2) (tb k))
  vel : Sm (bowSt ms x0 k).2
  big : Flo.Ab (S (bowSt ms x0 k).2) (3 * (tb k : Rat) + (tb k : Rat) / 10000 + 1 / 100)
theorem force_num (T v es : Rat) (hT : 0 ≤ T) (ve : v * 16777216 = 1) (e0 : 0 < es) (es1 : es ≤ 1 / 1048576) :
    9 + (3 * T + T / 10000 + 1 / 100) + ((9 + (3 * T + T / 10000 + 1 / 100)) * v + es) ≤ 3 * T + T / 1000 + 91 / 10 := by
  have hv : v = 1 / 16777216 := by grind
  subst hv
  grind
/-- the force of the next step -/
theorem force_ok (ms : List M4) (x0 k : Nat) (hx : Sm x0) (b0 : Flo.Ab (S x0) 9) (hk : k ≤ 10) (h : BowOk ms x0 k) :
    Calm .sub .f32 x0 (bowSt ms x0 k).2 ∧ Sm (bowF ms x0 k) ∧ Flo.Ab (S (bowF ms x0 k)) (3 * (tb k : Rat) + (tb k : Rat) / 1000 + 91 / 10) := by
  have hT0 : (0 : Rat) ≤ tb k := by exact_mod_cast Nat.zero_le _
  have hT := tbR k hk
  have l1 : Flo.pw 126 = 256 * Flo.pw 118 := by rw [show (126 : Int) = 8 + 118 from rfl, Flo.pw_add, show Flo.pw 8 = 256 from Flo.pw_nat 8]
  have l3 := Flo.pw_lt (a := 126) (b := 127) (by omega)
  have l4 : 1 ≤ Flo.pw 118 := by rw [← Flo.pw_zero]; exact Flo.pw_le (by omega)
  obtain ⟨r, r1, r2, r3⟩ := Flo.s_sub x0 _ hx h.vel _ (b0.sub h.big) (by grind)
  obtain ⟨c2, b2⟩ := Calm.of r1
  unfold bowF
  refine ⟨c2, by rw [b2]; exact r2, ?_⟩
  rw [b2]
  exact (((b0.sub h.big).add r3).eq (by grind)).mono (force_num (tb k) Flo.v Flo.es hT0 Flo.v_eq Flo.es_pos small'.es1)
theorem zip_mem {ms : List M4} {ss : List (Nat × Nat)} {x : Nat} {q : Nat × Nat} (h : q ∈ stepAll ms ss x) : ∃ m s, m ∈ ms ∧ s ∈ ss ∧ q = stepS m s x := by
  unfold stepAll at h
  obtain ⟨i, hi⟩ := List.getElem?_of_mem h
  rw [List.getElem?_zipWith] at hi
  cases hm : ms[i]? with
  | none => rw [hm] at hi; simp at hi
  | some m =>
    cases hs : ss[i]? with
    | none => rw [hm, hs] at hi; simp at hi
    | some s =>
      rw [hm, hs] at hi
      simp at hi
      exact ⟨m, s, List.mem_of_getElem? hm, List.mem_of_getElem? hs, hi.symm⟩
theorem next_num (T : Rat) (hT : 0 ≤ T) : 6 * T + 1025 * (3 * T + T / 1000 + 91 / 10) + 2 ≤ 3083 * T + 9400 := by grind
theorem bow_ok (ms : List M4) (hms : ∀ m ∈ ms, m.ok) (hl : ms.length ≤ 3) (x0 : Nat) (hx : Sm x0) (b0 : Flo.Ab (S x0) 9) : ∀ k, k ≤ 10 → BowOk ms x0 k
  | 0, _ => by
    have hz : Flo.Ab (S 0) ((tb 0 : Nat) : Rat) := by rw [zero_single.2]; constructor <;> simp [tb]
    refine ⟨fun s hs => ?_, zero_single.1, ?_⟩
    · simp only [bowSt, List.mem_map] at hs
      obtain ⟨m, -, rfl⟩ := hs
      exact ⟨⟨zero_single.1, hz⟩, zero_single.1, hz⟩
    · show Flo.Ab (S 0) _
      exact hz.mono (by simp [tb]; grind)
  | k + 1, hk => by
    have h := bow_ok ms hms hl x0 hx b0 k (by omega)
    obtain ⟨-, f1, f2⟩ := force_ok ms x0 k hx b0 (by omega) h
    have hT0 : (0 : Rat) ≤ tb k := by exact_mod_cast Nat.zero_le _
    have hT := tbR k (by omega)
    have hF := tfR k (by omega)
    have hnext : 6 * (tb k : Rat) + 1025 * (3 * (tb k : Rat) + (tb k : Rat) / 1000 + 91 / 10) + 2 ≤ ((tb (k + 1) : Nat) : Rat) := by
      have e : ((tb (k + 1) : Nat) : Rat) = 3083 * (tb k : Rat) + 9400 := by show ((3083 * tb k + 9400 : Nat) : Rat) = _; push_cast; rfl
      rw [e]; exact next_num _ hT0
    have hst : ∀ s ∈ (bowSt ms x0 (k + 1)).1, (Sm s.1 ∧ Flo.Ab (S s.1) (tb (k + 1))) ∧ (Sm s.2 ∧ Flo.Ab (S s.2) (tb (k + 1))) := by
      intro q hq
      obtain ⟨m, s, hm, hs, rfl⟩ := zip_mem (show q ∈ stepAll ms (bowSt ms x0 k).1 (bowF ms x0 k) from hq)
      obtain ⟨⟨s1, s2⟩, s3, s4⟩ := h.st s hs
      obtain ⟨-, g1, g2⟩ := gb_ok m (hms m hm)
      obtain ⟨-, a1, a2, a3, a4⟩ := step_grow m (hms m hm) s (bowF ms x0 k) s1 s3 f1 (tb k) _ s2 s4 f2 g1 g2 hT (by grind)
      exact ⟨⟨a1, a3.mono hnext⟩, a2, a4.mono hnext⟩
    have hT1 : (0 : Rat) ≤ tb (k + 1) := by exact_mod_cast Nat.zero_le _
    have hlen := bowSt_len ms x0 (k + 1)
    obtain ⟨v1, v2⟩ := sum_small (bowSt ms x0 (k + 1)).1 (tb (k + 1)) hT1 (tbR (k + 1) hk) (fun s hs => (hst s hs).1) (bowSt ms x0 (k + 1)).1.length (by omega) (Nat.le_refl _)
    rw [List.take_length] at v1 v2
    refine ⟨hst, v1, v2.mono ?_⟩
    have hl3 : (((bowSt ms x0 (k + 1)).1.length : Nat) : Rat) ≤ ((3 : Nat) : Rat) := by exact_mod_cast (by omega : (bowSt ms x0 (k + 1)).1.length ≤ 3)
    have hl3' : (((bowSt ms x0 (k + 1)).1.length : Nat) : Rat) ≤ 3 := hl3
    have hmul := Rat.mul_le_mul_of_nonneg_right hl3' hT1
    generalize (((bowSt ms x0 (k + 1)).1.length : Nat) : Rat) * (tb (k + 1) : Rat) = q at *
    grind

/-- EACH OF THE FIRST ELEVEN STEPS draws nothing and gives no NaN in a state. -/
theorem bow_step (ms : List M4) (hms : ∀ m ∈ ms, m.ok) (hl : ms.length ≤ 3) (x0 : Nat) (hx : Sm x0) (b0 : Flo.Ab (S x0) 9) (k : Nat) (hk : k ≤ 10) :
    ∀ (i : Nat) m s, ms[i]? = some m → (bowSt ms x0 k).1[i]? = some s → StepOk m s (bowF ms x0 k) := by
  intro i m s hm hs
  have h := bow_ok ms hms hl x0 hx b0 k hk
  obtain ⟨-, f1, -⟩ := force_ok ms x0 k hx b0 hk h
  obtain ⟨⟨s1, s2⟩, s3, s4⟩ := h.st s (List.mem_of_getElem? hs)
  exact step_wide m (hms m (List.mem_of_getElem? hm)) s _ s1 s3 f1 (tb k) s2 s4 (tbR k hk)
theorem bow_sum (ms : List M4) (hms : ∀ m ∈ ms, m.ok) (hl : ms.length ≤ 3) (x0 : Nat) (hx : Sm x0) (b0 : Flo.Ab (S x0) 9) (k : Nat) (hk : k < 10) : SumOk (bowSt ms x0 (k + 1)).1 := by
  intro i s hs
  have h := bow_ok ms hms hl x0 hx b0 (k + 1) (by omega)
  have hil := (List.getElem?_eq_some_iff.1 hs).1
  have hlen := bowSt_len ms x0 (k + 1)
  have hT1 : (0 : Rat) ≤ tb (k + 1) := by exact_mod_cast Nat.zero_le _
  obtain ⟨v1, -⟩ := sum_small (bowSt ms x0 (k + 1)).1 (tb (k + 1)) hT1 (tbR (k + 1) (by omega)) (fun s hs => (h.st s hs).1) i (by omega) (by omega)
  refine calm_add_num _ _ v1 ?_
  obtain ⟨t, m, j, hr⟩ := ((h.st s (List.mem_of_getElem? hs)).1).1
  rw [show FloatKind.f32.decode s.1 = _ from hr]; rfl
end Go.Proofs.Ytfgofmcpgfofaaa
